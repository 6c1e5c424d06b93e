/- rank.Of of the fields of a form; the statements' own closed fact (ranked). -/
import Derived.Test.YtdndphagfohpnaaGreatDoorRkSmall
namespace Go.Proofs.YtdndphagfohpnaaGreatDoor.RkK
open Go.RowKit
open ValM LexM NumM ExM NmM Kit ExL ExP ExN ExC RawV Within RawL RawN GenL Gen GenT GenV FrmM Frm FldP FldR FldC FrmT FrmO TyM Ty TyG NmG NmO NmI NmR RkM RkA RkB RkC RkD RkO RkS
set_option linter.unusedVariables false

/-- A row of numbers that is told by its block. -/
def RankAt (ns : List (List Nat)) (n : Nat) (w : World) (e : Ending) (w' : World) : Prop :=
  ∃ g cap, e = .returned (.tuple #[.slice (some ⟨g, 0, none⟩) n cap, .slice none 0 0, .int .i64 0]) ∧ (∀ j, j < n → w'.cell? ⟨g, j, none⟩ = some (.int .i64 (rk (rankF ns) j))) ∧ w.heap.size ≤ g ∧ Below w.heap.size w w'
theorem RankOk.at {ns : List (List Nat)} {n : Nat} (hn : ns.length = n) (h0 : 0 < n) {w : World} {e : Ending} {w' : World} (h : RankOk ns w e w') : RankAt ns n w e w' := by
  obtain ⟨v, rfl, hown, hb⟩ := h
  subst hn
  obtain ⟨g, cap, rfl, hg, _, _, _, hc⟩ := GenL.own_form hown h0
  exact ⟨g, cap, rfl, fun j hj => by rw [hc j (by omega), iV_at _ _ (by rw [rankF_len]; exact hj)], hg, hb⟩
/-- What rank.Of says of a form's fields. -/
structure FormRank (rs : List Rw) (es : List FE) (FA : Option Addr) (fc : Nat) (w : World) : Prop where
  of : ∀ V : World, Below w.heap.size w V → Calls Tryz.prog 7 #[.slice FA es.length fc] V (RankAt (needsF (es.map FE.fd) (xOf es)) es.length V)
  base : OfBase rs (es.map FE.fd) (xOf es) (plc rs)
  flds : Flds w FA (es.map FE.fd)
  forms : Forms w (es.map FE.fd) (xOf es)
  ge : ∀ i, i < es.length → 0 ≤ rk (rankF (needsF (es.map FE.fd) (xOf es))) i ∧ rk (rankF (needsF (es.map FE.fd) (xOf es))) i ≤ (plc rs i : Int)
  len : es.length = countV rs
theorem form_rank {rs : List Rw} {es : List FE} {P : Nat → Prop} {w : World} {FA : Option Addr} {fc : Nat} (h : es.map FE.v = formF rs) (hr : FRow P w FA es) (hcap : es.length ≤ fc ∧ fc ≤ maxLen) (hT : Tab w) : FormRank rs es FA fc w := by
  have hB := form_base h hr
  have hl : (es.map FE.fd).length = es.length := List.length_map _
  have hlen : es.length = countV rs := (form_places h).1
  have hge : ∀ i, i < es.length → 0 ≤ rk (rankF (needsF (es.map FE.fd) (xOf es))) i ∧ rk (rankF (needsF (es.map FE.fd) (xOf es))) i ≤ (plc rs i : Int) := fun i hi => by
    refine rankF_ok (m := plc rs) (fun k hk j hj => ?_) _ i (Nat.le_refl _) (by rw [needsF_len, hl]; exact hi)
    rw [needsF_len] at hk ⊢
    exact hB.needs k hk j hj
  refine ⟨fun V hV => ?_, hB, frow_flds hr, form_forms h hr, hge, hlen⟩
  have h10 := hB.ten
  have := of_ok (es.map FE.fd) (xOf es) FA fc V (by omega) ((frow_flds hr).below hV) ((form_forms h hr).below hV) (hT.below hV) (by rw [hl]; exact hcap) hB.check (fun i hi => (hge i (by omega)).1)
  rw [hl] at this
  exact this.mono fun e w' hh => RankOk.at (by rw [needsF_len, hl]) (by have := (countV_bd rs).1; omega) hh
theorem eq_three (W : World) (g cap B : Nat) (h1 : ∀ j, j < 3 → W.cell? ⟨g, j, none⟩ = some (.int .i64 (rk [1, 0, 2] j))) (h2 : ∀ j, j < 3 → W.cell? ⟨B, j, none⟩ = some (.int .i64 (rk [1, 0, 2] j))) :
    Calls Tryz.prog 31 #[.slice (some ⟨g, 0, none⟩) 3 cap, .slice (some ⟨B, 0, none⟩) 3 3] W fun e w' => e = .returned (.bool true) ∧ ∃ q, w' = W.drewN q := by
  have := Tryz.slices_Equal_int g 0 3 cap B 0 3 3 [1, 0, 2] [1, 0, 2] W (by decide) (by decide) (by decide) (by decide) (fun j hj => by rw [Nat.zero_add]; exact h1 j hj) (fun j hj => by rw [Nat.zero_add]; exact h2 j hj)
  exact this
set_option maxRecDepth 100000 in
set_option maxHeartbeats 4000000 in
theorem ranked_any (w : World) (hT : Tab w) : Calls Tryz.prog 16 #[] w fun e w' => e = .returned (.bool true) ∧ Below w.heap.size w w' := by
  have hf0 := @fld0
  have HT := Lib.hid hT
  clear hT
  go_enter Tryz.func16, Tryz.ntmps16
  go_wp2_with fail
  refine (small_any _).mono ?_; rintro e w1 ⟨es, FA, fc, ps, PA, pc, rfl, hv, hpv, hfr, hpr, hb, hcap, -⟩
  obtain ⟨hF, hck, hnd⟩ := small_all hv hfr
  have hl : (es.map FE.fd).length = es.length := List.length_map _
  have h3 := small_len hv
  have hof := of_ok (es.map FE.fd) (xOf es) FA fc w1 (by rw [hl, h3]; decide) (frow_flds hfr) hF (HT.out.below hb) (by rw [hl]; exact hcap) hck (fun i hi => by
    rw [hnd, small_rank]
    rw [hl, h3] at hi
    obtain rfl | rfl | rfl : i = 0 ∨ i = 1 ∨ i = 2 := by omega
    all_goals decide)
  rw [hnd, hl, h3] at hof
  rw [h3]
  have HOf := Lib.hid hof
  have HB := Lib.hid hb
  clear hof hb hv hpv hfr hpr hF hck hnd hl h3 hcap
  go_wp2_with fail
  refine HOf.out.mono ?_; rintro e w2 h2
  obtain ⟨g, cap, rfl, hc, hg, hb2⟩ := RankOk.at (n := 3) rfl (by decide) h2
  rw [small_rank] at hc
  have hgl : g < w2.heap.size := World.block_lt_of_cell? w2 _ (hc 0 (by decide))
  obtain ⟨W3, hW3⟩ : ∃ V, w2.alloc (.cells #[.int .i64 1, .int .i64 0, .int .i64 2] 3) = V := ⟨_, rfl⟩
  have hb3 := b_new w2 (.cells #[.int .i64 1, .int .i64 0, .int .i64 2] 3)
  have hn3 := World.alloc_heap_new w2 (.cells #[.int .i64 1, .int .i64 0, .int .i64 2] 3)
  rw [hW3] at hb3 hn3
  have heq := eq_three W3 g cap w2.heap.size (fun j hj => (hb3.cell (p := ⟨g, j, none⟩) hgl).trans (hc j hj)) (fun j hj => by
    obtain rfl | rfl | rfl : j = 0 ∨ j = 1 ∨ j = 2 := by omega
    all_goals simp [World.cell?, hn3, rk])
  have HEq := Lib.hid heq
  have HB3 := Lib.hid (b_trans HB.out (b_trans hb2 hb3))
  have HW3 := Lib.hid hW3
  clear heq hb2 hb3 hn3 hc h2 hW3
  go_wp2_with (go_at_call 31; rw [HW3.out]; refine HEq.out.mono ?_; rintro e w4 ⟨rfl, q, rfl⟩)
  go_ret
  exact ⟨rfl, b_drewN HB3.out _⟩
theorem min_at {r : List Int} : ∀ k, 0 < k → k ≤ r.length → (∀ j, j < k → Lib.minOf (r.take k) ≤ rk r j) ∧ ∃ j, j < k ∧ Lib.minOf (r.take k) = rk r j
  | 0, h, _ => absurd h (by omega)
  | 1, _, hl => by
    rw [Lib.minOf_one]
    exact ⟨fun j hj => by obtain rfl : j = 0 := by omega
                          exact Int.le_refl _, 0, by omega, rfl⟩
  | k + 2, _, hl => by
    obtain ⟨h1, j, hj, h2⟩ := min_at (r := r) (k + 1) (by omega) (by omega)
    rw [Lib.minOf_step r (k + 1) (by omega) (by omega)]
    have e : r.getD (k + 1) 0 = rk r (k + 1) := rfl
    rw [e]
    refine ⟨fun i hi => ?_, ?_⟩
    · by_cases e : i = k + 1
      · subst e; omega
      · have := h1 i (by omega); omega
    · by_cases hm : Lib.minOf (r.take (k + 1)) ≤ rk r (k + 1)
      · exact ⟨j, by omega, by omega⟩
      · exact ⟨k + 1, by omega, by omega⟩
theorem max_at {r : List Int} : ∀ k, 0 < k → k ≤ r.length → ∃ j, j < k ∧ Lib.maxOf (r.take k) = rk r j
  | 0, h, _ => absurd h (by omega)
  | 1, _, hl => by
    rw [Lib.maxOf_one]
    exact ⟨0, by omega, rfl⟩
  | k + 2, _, hl => by
    obtain ⟨j, hj, h2⟩ := max_at (r := r) (k + 1) (by omega) (by omega)
    rw [Lib.maxOf_step r (k + 1) (by omega) (by omega)]
    have e : r.getD (k + 1) 0 = rk r (k + 1) := rfl
    rw [e]
    by_cases hm : rk r (k + 1) ≤ Lib.maxOf (r.take (k + 1))
    · exact ⟨j, by omega, by omega⟩
    · exact ⟨k + 1, by omega, by omega⟩
end Go.Proofs.YtdndphagfohpnaaGreatDoor.RkK
