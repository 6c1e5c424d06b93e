/- Contract of names.Has. -/
import Derived.Test.YtehkebncdahmcaaGreatDoorNmVisit
import Derived.Test.YtehkebncdahmcaaGreatDoorExCheck
import Derived.Test.YtehkebncdahmcaaGreatDoorNmPut
import Derived.RangeFuncBox
namespace Go.Proofs.YtehkebncdahmcaaGreatDoor.NmH
open Go.RowKit Go.Shelf
open ExM NmM Kit ExL ExV NmV
set_option linter.unusedVariables false
attribute [local go_sem] Oper.semAt_some

theorem hasB_snoc (l : List ByteArray) (t s : ByteArray) : hasB (l ++ [t]) s = (hasB l s || decide (t = s)) := by rw [hasB_append, hasB_cons, hasB_nil, Bool.or_false]
theorem box1 (w : World) (o0 o1 o2 o3 : Obj) : ((((w.alloc o0).alloc o1).alloc o2).alloc o3).heap[w.heap.size]? = some o0 ∧ ((((w.alloc o0).alloc o1).alloc o2).alloc o3).heap[w.heap.size + 1]? = some o1 ∧ ((((w.alloc o0).alloc o1).alloc o2).alloc o3).heap[w.heap.size + 1 + 1]? = some o2 ∧ ((((w.alloc o0).alloc o1).alloc o2).alloc o3).heap[w.heap.size + 1 + 1 + 1]? = some o3 := NmP.box2 w o0 o1 o2 o3

set_option maxRecDepth 100000 in
set_option maxHeartbeats 1000000 in
theorem has_any (x : Ex) (n : ByteArray) (d : Nd) (A : Option Addr) (m c : Nat) (w : World) (his : Is w x d A m) :
    Calls Tryz.prog 19 #[.agg #[.int .i64 d.op, .int .i64 d.k, .int .i64 d.n, .string d.s, .string d.nm, .slice A m c], .string n] w fun e w' => e = .returned (.bool (hasB (Ex.refs x) n)) ∧ Below w.heap.size w w' := by
  refine (callsIn_wide (n := 5)).1 ?_
  obtain ⟨R, hR⟩ : ∃ R, hasB (Ex.refs x) n = R := ⟨_, rfl⟩
  rw [hR]
  have HR := Lib.hid hR
  have HIs := Lib.hid his
  clear his hR
  refine callsIn_of_wp_marks Tryz.func19 rfl trivial ?_ rfl
  simp only [Tryz.ntmps19, List.size_toArray, List.length_cons, List.length_nil, Nat.reduceAdd, Nat.reduceSub, Array.replicate_succ, Array.replicate_zero, List.push_toArray, List.append_toArray, List.nil_append, List.cons_append]
  gi_wp2_with (refine ⟨trivial, ?_⟩; gi_at_call 34; refine (refs_in Fence.wide _ trivial rfl d A m c _).mono ?_; rintro e w' ⟨rfl, rfl⟩)
  obtain ⟨W0, hW0⟩ : ∃ W0, ((((w.alloc (.cells #[.int .i64 d.op, .int .i64 d.k, .int .i64 d.n, .string d.s, .string d.nm, .slice A m c] 26)).alloc (.cells #[.string n] 9)).alloc (.cells #[.bool false] 4)).alloc (.cells #[.int .i64 d.op, .int .i64 d.k, .int .i64 d.n, .string d.s, .string d.nm, .slice A m c] 26)) = W0 := ⟨_, rfl⟩
  rw [hW0]
  have hbx := box1 w (.cells #[.int .i64 d.op, .int .i64 d.k, .int .i64 d.n, .string d.s, .string d.nm, .slice A m c] 26) (.cells #[.string n] 9) (.cells #[.bool false] 4) (.cells #[.int .i64 d.op, .int .i64 d.k, .int .i64 d.n, .string d.s, .string d.nm, .slice A m c] 26)
  rw [hW0] at hbx
  have hsz : W0.heap.size = w.heap.size + 4 := by rw [← hW0]; simp
  have hB0 : Below w.heap.size w W0 := by rw [← hW0]; exact b_more (b_more (b_more (b_new _ _) _) _) _
  have hb1 : Boxed W0 (w.heap.size + 1) 9 (.string n) := hbx.2.1
  have hb2 : Boxed W0 (w.heap.size + 1 + 1) 4 (.bool false) := hbx.2.2.1
  have hb3 : Box W0 (w.heap.size + 1 + 1 + 1) d A m c := hbx.2.2.2
  clear hW0 hbx
  have hsz1 : w.heap.size + 4 ≤ W0.heap.size := by omega
  have hsz2 : W0.heap.size ≤ w.heap.size + 4 := by omega
  clear hsz
  refine wpIn_rangeFunc_ownF rfl (by decide) (gf := 58) (lb := #[.pointer (some ⟨w.heap.size + 1 + 1 + 1, 0, none⟩)]) rfl trivial (enters_of Tryz.func58 (by kernel_rfl) rfl)
    (refs_stops Fence.wide rfl trivial trivial rfl _ (w.heap.size + 1 + 1 + 1) w W0 x d A m c HIs.out hB0 hb3) Kp.trans (fun W l o o' hl ho hc _ => kp_putObj W l o o' (by omega) ho hc) (Below.refl _ _) (fun _ => rfl)
    (fun pre W => (((hasB (bare pre) n = false) ∧ Boxed W (w.heap.size + 1) 9 (.string n)) ∧ Boxed W (w.heap.size + 1 + 1) 4 (.bool false)) ∧ Below w.heap.size w W)
    (fun cd pre W => ((cd = .ret ∧ hasB (bare pre) n = true) ∧ Boxed W (w.heap.size + 1 + 1) 4 (.bool true)) ∧ Below w.heap.size w W)
    (OwnFrom.and (OwnFrom.and (OwnFrom.and (ownFrom_pure _ _) (Own.from (boxed_own _ _ (fun _ => _)) _)) (Own.from (boxed_own _ _ (fun _ => _)) _)) (ownFrom_below (Nat.le_refl _) (by omega)))
    (fun cd => OwnFrom.and (OwnFrom.and (ownFrom_pure _ _) (Own.from (boxed_own _ _ (fun _ => _)) _)) (ownFrom_below (Nat.le_refl _) (by omega)))
    ⟨⟨⟨rfl, hb1⟩, hb2⟩, hB0⟩
    (fun y => { tmps := #[.agg #[.int .i64 d.op, .int .i64 d.k, .int .i64 d.n, .string d.s, .string d.nm, .slice A m c], .string n, .pointer (some ⟨w.heap.size, 0, none⟩), .pointer (some ⟨w.heap.size + 1, 0, none⟩), .pointer (some ⟨w.heap.size + 1 + 1, 0, none⟩), .string y.1, .agg #[.int .i64 d.op, .int .i64 d.k, .int .i64 d.n, .string d.s, .string d.nm, .slice A m c], .func (.func 58) #[] #[.pointer (some ⟨w.heap.size + 1 + 1 + 1, 0, none⟩)], .string y.1, undef, undef, undef], defers := [] }) ?assign ?body ?done ?stop
  case assign =>
    intro l y W K hK
    gi_wp2
    simpa [NmV.encs] using hK
  case body =>
    rintro l pre y W ⟨⟨⟨hp, h1⟩, h2⟩, hB⟩ _
    have c1 := h1.cell
    have f1 := h1.frozen
    have c2 := h2.cell
    have f2 := h2.frozen
    have hsn := hasB_snoc (bare pre) y.1 n
    rw [hp, Bool.false_or] at hsn
    have hbs : bare (pre ++ [y]) = bare pre ++ [y.1] := bare_append _ _
    rw [← hbs] at hsn
    clear hp hbs
    by_cases hc : y.1 = n
    · have t1 : (y.1.toList == n.toList) = true := by rw [NmP.eqs_of]; exact decide_eq_true hc
      rw [decide_eq_true hc] at hsn
      have HSn := Lib.hid hsn
      clear hsn hc
      gi_wp2
      exact ⟨KeepsOthers.setCell _ _ _, ⟨⟨rfl, HSn.out⟩, h2.set _⟩, hB.setCell (p := ⟨w.heap.size + 1 + 1, 0, none⟩) (by show w.heap.size ≤ w.heap.size + 1 + 1; omega) _⟩
    · have t1 : (y.1.toList == n.toList) = false := by rw [NmP.eqs_of]; exact decide_eq_false hc
      rw [decide_eq_false hc] at hsn
      have HSn := Lib.hid hsn
      clear hsn hc
      gi_wp2
      exact ⟨KeepsOthers.refl _, Kp.refl _ _ _, ⟨⟨⟨HSn.out, h1⟩, h2⟩, hB⟩⟩
  case done =>
    rintro D ys W hD hys ⟨⟨⟨hp, h1⟩, h2⟩, hB⟩ hK
    obtain rfl : R = false := by rw [← HR.out, ← hys]; exact hp
    have c2 := h2.cell
    have f2 := h2.frozen
    clear hp hys
    gi_wp2
    have hK2 := (KeepsOthers.setCell W ⟨w.heap.size + 1 + 1, 0, none⟩ (.bool false)).same D _ hK rfl
    refine ⟨by simp, .inl ⟨_, _, rfl, run_takeDeferred hK2, ?_⟩⟩
    have hc5 := cell_kept (h2.set (.bool false)).cell (grownBy_putObj' _ D (.deferred none)) (fun r e => by cases e; exact ⟨_, hK2, rfl⟩)
    refine ⟨.bool false, ?_, rfl, (hB.setCell (p := ⟨w.heap.size + 1 + 1, 0, none⟩) (by show w.heap.size ≤ w.heap.size + 1 + 1; omega) _).trans (belowK_b (w := w) (Nat.le_refl _) _ D _ _ (by omega) hK2 rfl rfl)⟩
    simp [results, Tryz.f19, go_sem, hc5]
  case stop =>
    rintro D cd pre W hD hpre ⟨⟨⟨rfl, hin⟩, h2⟩, hB⟩ hK
    have hc5 := cell_kept h2.cell (grownBy_putObj' _ D (.deferred none)) (fun r e => by cases e; exact ⟨_, hK, rfl⟩)
    obtain rfl : R = true := by rw [← HR.out]; exact hasB_prefix hpre hin
    gi_wp2
    refine ⟨by simp, .inl ⟨_, _, rfl, run_takeDeferred hK, ?_⟩⟩
    refine ⟨.bool true, ?_, rfl, hB.trans (belowK_b (w := w) (Nat.le_refl _) W D _ _ (by omega) hK rfl rfl)⟩
    simp [results, Tryz.f19, go_sem, hc5]
end Go.Proofs.YtehkebncdahmcaaGreatDoor.NmH
