/- Package rank: all the ranks of fields, by the places that each needs. -/
import Derived.Test.YthgcmficmodhiaaGreatDoorRkB
import Derived.RangeFuncRecord
namespace Go.Proofs.YthgcmficmodhiaaGreatDoor.RkC
open Go.RowKit
open Kit RkM RkA RkB
set_option linter.unusedVariables false

/-- For each field a row of places. -/
def NsRow (w : World) (A : Option Addr) (ns : List (List Nat)) : Prop := ∀ (i : Nat) (h : i < ns.length), ∃ g, A = some ⟨g, 0, none⟩ ∧ ∃ Ai ci, w.cell? ⟨g, i, none⟩ = some (.slice Ai (nd ns i).length ci) ∧ NtRow w Ai (nd ns i)
theorem NsRow.below {w w' : World} {A : Option Addr} {ns : List (List Nat)} (h : NsRow w A ns) (hb : Below w.heap.size w w') : NsRow w' A ns := fun i hi => by
  obtain ⟨g, e, Ai, ci, hc, hr⟩ := h i hi
  exact ⟨g, e, Ai, ci, (hb.cell (p := ⟨g, i, none⟩) (World.block_lt_of_cell? w _ hc)).trans hc, hr.below hb⟩
/-- The places are places. -/
def Okn (ns : List (List Nat)) : Prop := ns.length ≤ 14 ∧ ∀ i, i < ns.length → (nd ns i).length ≤ 1048576 ∧ ∀ j ∈ nd ns i, j < ns.length
def RanksOut (ns : List (List Nat)) (w : World) (e : Ending) (w' : World) : Prop :=
  ∃ v, e = .returned v ∧ w'.ownsRow w.heap.size 3 1 v ns.length (iV (rankF ns)) ∧ Below w.heap.size w w'
theorem iV_set (r : List Int) (k : Nat) (u : Int) : (iV r).set k (.int .i64 u) = iV (r.set k u) := by unfold iV; rw [List.map_set]
theorem iV_at (r : List Int) (k : Nat) (h : k < r.length) : (iV r)[k]? = some (.int .i64 (rk r k)) := by
  rw [List.getElem?_eq_getElem (by rw [iV_len]; exact h), rk_at r k h]; unfold iV; rw [List.getElem_map]
theorem own_row {w : World} {base g n c : Nat} {r : List Int} (h : w.ownsRow base 3 1 (.slice (some ⟨g, 0, none⟩) n c) n (iV r)) (hl : r.length = n) : IRow w (some ⟨g, 0, none⟩) r := fun j hj => ⟨g, rfl, by
  rw [h.cellAt j (by omega), iV_at r j hj]⟩
structure RI (w : World) (g : Nat) (ns : List (List Nat)) (r : List Int) (wr : World) : Prop where
  own : wr.ownsRow w.heap.size 3 1 (.slice (some ⟨g, 0, none⟩) ns.length ns.length) ns.length (iV r)
  len : r.length = ns.length
  below : Below w.heap.size w wr
theorem RI.set {w : World} {g : Nat} {ns : List (List Nat)} {r : List Int} {wr : World} (h : RI w g ns r wr) (k : Nat) (u : Int) : RI w g ns (r.set k u) (wr.setCell ⟨g, k, none⟩ (.int .i64 u)) := by
  refine ⟨by rw [← iV_set]; exact (h.own.stored k _).1, by rw [List.length_set, h.len], h.below.setCell (p := ⟨g, k, none⟩) (h.own.lt g rfl).1 _⟩
set_option maxRecDepth 100000 in
set_option maxHeartbeats 4000000 in
theorem ranked_any (ns : List (List Nat)) (A : Option Addr) (c : Nat) (w : World) (hk : Okn ns) (hA : NsRow w A ns) :
    Calls Tryz.prog 15 #[.slice A ns.length c] w (RanksOut ns w) := by
  obtain ⟨hn, hin⟩ := hk
  obtain ⟨W, hW⟩ : ∃ V, w.alloc (.cells #[.int .i64 (-1)] 3) = V := ⟨_, rfl⟩
  have hb0 := b_new w (.cells #[.int .i64 (-1)] 3)
  have hx0 : W.cell? ⟨w.heap.size, 0, none⟩ = some (.int .i64 (-1)) := by
    rw [← hW]
    unfold World.cell?
    rw [World.alloc_heap_new w _]; rfl
  have hs0 : w.heap.size < W.heap.size := by rw [← hW]; simp
  rw [hW] at hb0
  have hrep := repeat_any ns.length w.heap.size 1 W (by omega) hs0 hx0
  have hstart : ∀ V : World, V.ownsRow W.heap.size 3 1 (.slice (some ⟨W.heap.size, 0, none⟩) ns.length ns.length) ns.length (iV (List.replicate ns.length (-1))) → Below W.heap.size W V → RI w W.heap.size ns (passN ns 0) V := fun V h1 h2 =>
    ⟨⟨h1.1, h1.2.imp id fun ⟨g, cap, cur, a, b, c⟩ => ⟨g, cap, cur, a, Nat.le_trans hb0.size b, c⟩⟩, pass_len ns 0, hb0.trans (h2.mono hb0.size)⟩
  have hbd : ∀ p k : Nat, p < ns.length → k ≤ ns.length → Bd (sweepN ns (passN ns p) k) 1000000 := fun p k hp hk i => by
    have := bd_sweep (ns := ns) (bd_pass ns p) (Int.mul_nonneg (by omega) (by omega)) (pass_len ns p) k hk i
    have h2 : (p : Int) * (ns.length : Int) ≤ 14 * 14 := Int.mul_le_mul (by omega) (by omega) (by omega) (by omega)
    omega
  have habove : ∀ (p k g : Nat) (wr : World) (Ai : Option Addr) (ci : Nat), p < ns.length → k < ns.length → RI w g ns (sweepN ns (passN ns p) k) wr → NtRow wr Ai (nd ns k) → Calls Tryz.prog 34 #[.slice Ai (nd ns k).length ci, .slice (some ⟨g, 0, none⟩) ns.length ns.length] wr fun e w' => e = .returned (.int .i64 (aboveI (sweepN ns (passN ns p) k) (nd ns k) 0)) ∧ wr = w' := fun p k g wr Ai ci hp hk hR hr => by
    have := above_any (nd ns k) (sweepN ns (passN ns p) k) Ai (some ⟨g, 0, none⟩) ci ns.length wr (hin k hk).1 hr (own_row hR.own hR.len) (fun i hi => by rw [hR.len]; exact (hin k hk).2 i hi) (by rw [hR.len]; omega) (hbd p k hp (by omega))
    rw [hR.len] at this
    exact this
  have HA := Lib.hid hA
  have HR := Lib.hid hrep
  have HS := Lib.hid hstart
  have HAb := Lib.hid habove
  have HW := Lib.hid hW
  have HB0 := Lib.hid hb0
  clear hA hrep hstart hbd habove hW hb0 hx0
  go_enter Tryz.func15, Tryz.ntmps15
  go_wp2_with (go_at_call 33; rw [HW.out]; refine HR.out.mono ?_; rintro e w1 ⟨rfl, hown, hb1⟩; have hS := HS.out w1 hown hb1; have HS1 := Lib.hid hS; clear hS hown hb1)
  generalize W.heap.size = g at HS1 ⊢
  go_loopw [4, 5, 12] (fun _ _ ii wr => ∃ p : Nat, ii = .int .i64 p ∧ p ≤ ns.length ∧ RI w g ns (passN ns p) wr) (fun _ _ ii _ => ns.length - (intOf ii).toNat)
  case atStart => exact ⟨0, rfl, by omega, HS1.out⟩
  case round =>
    obtain ⟨p, rfl, hp, hI⟩ := hrel
    have HI := Lib.hid hI
    clear hI
    by_cases hlt : p < ns.length
    · obtain ⟨Wp, rfl⟩ : ∃ V, V = wr := ⟨_, rfl⟩
      go_wp2_with fail
      go_loopw [4, 5, 16] (fun _ _ ii wr => ∃ k : Nat, ii = .int .i64 k ∧ k ≤ ns.length ∧ RI w g ns (sweepN ns (passN ns p) k) wr) (fun _ _ ii _ => ns.length - (intOf ii).toNat)
      case atStart => exact ⟨0, rfl, by omega, HI.out⟩
      case round =>
        obtain ⟨k, rfl, hk, hV⟩ := hrel
        by_cases hkl : k < ns.length
        · obtain ⟨g2, rfl, Ai, ci, hc, hr⟩ := HA.out.below hV.below k hkl
          have hab := HAb.out p k g wr Ai ci hlt hkl hV hr
          have hset := hV.set k (aboveI (sweepN ns (passN ns p) k) (nd ns k) 0)
          have hcell : wr.cell? ⟨g, k, none⟩ = some (.int .i64 (rk (sweepN ns (passN ns p) k) k)) := by rw [hV.own.cellAt k (by omega), iV_at _ _ (by rw [hV.len]; exact hkl)]
          have hfz := hV.own.frozenAt k
          have hnext : RI w g ns (sweepN ns (passN ns p) (k + 1)) (wr.setCell ⟨g, k, none⟩ (.int .i64 (aboveI (sweepN ns (passN ns p) k) (nd ns k) 0))) := hset
          generalize aboveI (sweepN ns (passN ns p) k) (nd ns k) 0 = u at hab hnext
          generalize rk (sweepN ns (passN ns p) k) k = u0 at hcell
          have HAB := Lib.hid hab
          have HN := Lib.hid hnext
          have hki : (k : Int) < (ns.length : Int) := by omega
          clear hab hset hnext hr hV
          go_wp2_with (go_at_call 34; refine HAB.out.mono ?_; rintro e w1 ⟨rfl, rfl⟩)
          go_roundw
          case rel => exact ⟨k + 1, by go_num, by omega, HN.out⟩
          case measure => simp [intOf]; omega
        · obtain rfl : k = ns.length := by omega
          have HV := Lib.hid hV
          clear hV
          go_wp2_with fail
          go_roundw
          case rel => exact ⟨p + 1, by go_num, by omega, HV.out⟩
          case measure => simp [intOf]; omega
    · obtain rfl : p = ns.length := by omega
      go_wp2_with fail
      go_ret
      exact ⟨_, rfl, HI.out.own, HI.out.below⟩
end Go.Proofs.YthgcmficmodhiaaGreatDoor.RkC
