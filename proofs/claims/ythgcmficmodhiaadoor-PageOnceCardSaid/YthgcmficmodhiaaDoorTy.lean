/- Contracts of package typing: settled, apply, typeOfField. -/
import Derived.Test.YthgcmficmodhiaaDoorGenLeaf
import Derived.Test.YthgcmficmodhiaaDoorMaths
import Derived.Deep.QuietTactic
import Derived.BigQuiet
import Derived.WalkSpells
import Derived.WalkLawsBesides
import Derived.IntWalk
namespace Go.Proofs.YthgcmficmodhiaaDoor.Ty
open Go.RowKit
open ExM Kit ExL GenL TyM
set_option linter.unusedVariables false

theorem settled_any (k last : Int) (w : World) : Calls Tryd.prog 66 #[.int .i64 k, .int .i64 last] w fun e w' => e = .returned (.int .i64 (settl k last)) ∧ w' = w := by
  by_cases h : k = 0
  · subst h
    go_enter Tryd.func66, Tryd.ntmps66
    go_wp2
    go_ret
    exact ⟨rfl, rfl⟩
  · have t1 : (k == 0) = false := beq_eq_false_iff_ne.2 h
    rw [show settl k last = k from if_neg h]
    go_enter Tryd.func66, Tryd.ntmps66
    go_wp2
    go_ret
    exact ⟨rfl, rfl⟩

/-- A call that leaves the world alone, behind draws. -/
theorem still_drawn {P : Program} {f : FuncId} {args : Array Value} {w : World} {i j : Nat} {v : Value} (c : ∀ W, Calls P f args W fun e w' => e = .returned v ∧ w' = W) :
    Calls P f args (w.drewN (i + j)) fun e w' => e = .returned v ∧ ∃ k, w' = w.drewN (i + k) := (c _).mono fun _ _ h => ⟨h.1, j, h.2⟩
/-- A row of numbers at the head of a block. -/
def IntsAt (w : World) (b : Nat) (l : List Int) : Prop := ∀ i, i < l.length → w.cell? ⟨b, i, none⟩ = some (.int .i64 (l.getD i 0))
theorem IntsAt.below {w w' : World} {b : Nat} {l : List Int} (h : IntsAt w b l) (hb : Below w.heap.size w w') : IntsAt w' b l := fun i hi =>
  (hb.cell (p := ⟨b, i, none⟩) (cell_lt' (h i hi))).trans (h i hi)

set_option maxHeartbeats 1000000 in
theorem apply_any (req ts : List Int) (res : Int) (rb tb rc tc : Nat) (w : World) (hr : IntsAt w rb req) (ht : IntsAt w tb ts) (hle : req.length ≤ ts.length) (hpos : 1 ≤ ts.length) (hmax : ts.length ≤ 1000) :
    Calls Tryd.prog 58 #[.agg #[.slice (some ⟨rb, 0, none⟩) req.length rc, .int .i64 res], .slice (some ⟨tb, 0, none⟩) ts.length tc] w fun e w' => e = .returned (.tuple #[.int .i64 (applyR req res ts).1, .int .i64 (applyR req res ts).2]) ∧ Below w.heap.size w w' := by
  obtain ⟨last, hlast⟩ : ∃ a, lastT ts = a := ⟨_, rfl⟩
  obtain ⟨M, hM⟩ : ∃ M, ts.length = M + 1 := ⟨ts.length - 1, by omega⟩
  obtain ⟨N, hN⟩ : ∃ N, req.length = N := ⟨_, rfl⟩
  have hl := ht M (by omega)
  have e1 : ts.getD M 0 = last := by rw [← hlast]; unfold lastT; rw [hM]; rfl
  rw [e1] at hl
  have hgood : (∀ i, i < N → ts.getD i 0 = settl (req.getD i 0) last) → applyR req res ts = (settl res last, 0) := fun h => by
    unfold applyR; rw [if_pos (by unfold fitsR; rw [hN, hlast]; exact h), hlast]
  have hbad : ∀ i, i < N → ts.getD i 0 ≠ settl (req.getD i 0) last → applyR req res ts = (0, 9) := fun i hi h => by
    unfold applyR; rw [if_neg (by unfold fitsR; rw [hN, hlast]; exact fun g => h (g i hi))]
  rw [hM] at hle hmax
  rw [hN] at hle
  obtain ⟨R, hR⟩ : ∃ R, applyR req res ts = R := ⟨_, rfl⟩
  rw [hR] at hgood hbad ⊢
  rw [hM, hN]
  have hr2 : ∀ i, i < N → w.cell? ⟨rb, i, none⟩ = some (.int .i64 (req.getD i 0)) := fun i hi => hr i (by omega)
  have ht2 : ∀ i, i < N → w.cell? ⟨tb, i, none⟩ = some (.int .i64 (ts.getD i 0)) := fun i hi => ht i (by omega)
  have hi1 : ((M + 1 : Nat) : Int) - 1 = (M : Int) := by omega
  have hw : IntKind.i64.wrap (((M + 1 : Nat) : Int) - 1) = (M : Int) := by rw [hi1]; exact IntWalk.i64_in _ (by omega)
  have HG := Lib.hid hgood
  have HB := Lib.hid hbad
  have HR2 := Lib.hid hr2
  have HT2 := Lib.hid ht2
  have htl : tb < w.heap.size := cell_lt' hl
  clear hgood hbad hr2 ht2 hr ht hR hM hN hlast e1 hpos
  go_enter Tryd.func58, Tryd.ntmps58
  go_wp2_with fail
  go_loopw [7, 8, 18] (fun _ _ i wr => ∃ (k m : Nat), i = .int .i64 k ∧ k ≤ N ∧ (∀ j, j < k → ts.getD j 0 = settl (req.getD j 0) last) ∧ wr = (w.alloc (.cells #[.slice (some ⟨rb, 0, none⟩) N rc, .int .i64 res] 92)).drewN m) (fun _ _ i _ => N - (intOf i).toNat)
  case atStart => exact ⟨0, 0, rfl, Nat.zero_le _, fun j hj => absurd hj (by omega), rfl⟩
  case round =>
    obtain ⟨k, m, rfl, hk, hall, rfl⟩ := hrel
    have hbw := b_drewN (b_new w (.cells #[.slice (some ⟨rb, 0, none⟩) N rc, .int .i64 res] 92)) m
    by_cases hlt : k < N
    · have h1 := hbw.cell (p := ⟨rb, k, none⟩) (cell_lt' (HR2.out k hlt))
      rw [HR2.out k hlt] at h1
      have h2 := hbw.cell (p := ⟨tb, k, none⟩) (cell_lt' (HT2.out k hlt))
      rw [HT2.out k hlt] at h2
      obtain ⟨x, hx⟩ : ∃ a, ts.getD k 0 = a := ⟨_, rfl⟩
      obtain ⟨y, hy⟩ : ∃ a, req.getD k 0 = a := ⟨_, rfl⟩
      obtain ⟨z, hz⟩ : ∃ a, settl y last = a := ⟨_, rfl⟩
      have hc := fun W => settled_any y last W
      rw [hx] at h2
      rw [hy] at h1
      rw [hz] at hc
      have hb := HB.out k hlt
      rw [hx, hy, hz] at hb
      have hnext : x = z → ∀ j, j < k + 1 → ts.getD j 0 = settl (req.getD j 0) last := fun e j hj => by
        rcases Nat.lt_or_ge j k with h | h
        · exact hall j h
        · obtain rfl : j = k := by omega
          rw [hx, hy, hz]; exact e
      have HC := Lib.hid hc
      have HN := Lib.hid hnext
      have HB2 := Lib.hid hb
      have HBW := Lib.hid hbw
      have h3 := HT2.out k hlt
      rw [hx] at h3
      clear hc hnext hb hx hy hz hall hbw
      have hkM : (k : Int) < (M : Int) + 1 := by omega
      by_cases hxz : x = z
      · subst hxz
        go_wp2_with fail
        go_quiet ((go_at_call 66; exact still_drawn HC.out))
        go_wp2_with fail
        go_roundw
        case rel => exact ⟨k + 1, _, by go_num, by omega, (by first | exact HN.out rfl | exact HN.out trivial), rfl⟩
        case measure => simp [intOf]; omega
      · have t1 : (x == z) = false := beq_eq_false_iff_ne.2 hxz
        obtain rfl := HB2.out hxz
        go_wp2_with fail
        go_quiet ((go_at_call 66; exact still_drawn HC.out))
        go_wp2_with fail
        go_ret2
        exact ⟨rfl, b_drewN (b_new w _) _⟩
    · obtain rfl : k = N := by omega
      have hg := HG.out hall
      subst hg
      have hc := fun W => settled_any res last W
      have HC := Lib.hid hc
      have HBW := Lib.hid hbw
      clear hc hall hbw
      go_wp2_with fail
      refine (HC.out _).mono ?_; rintro e w2 ⟨rfl, rfl⟩
      go_wp2_with fail
      go_ret2
      exact ⟨rfl, b_drewN (b_new w _) _⟩

/-- Fields, as far as their types go. -/
def fts (fs : List GenL.Fd) : List (ByteArray × Int) := fs.map fun f => (f.nm, f.ty)
theorem fts_len (fs : List GenL.Fd) : (fts fs).length = fs.length := by unfold fts; rw [List.length_map]
theorem fts_at (fs : List GenL.Fd) (k : Nat) (h : k < fs.length) (g : k < (fts fs).length) : (fts fs)[k] = (fs[k].nm, fs[k].ty) := by simp only [fts, List.getElem_map]
theorem fieldT_fts {fs : List GenL.Fd} {s : ByteArray} {k : Nat} (hk : k < fs.length) (h : ∀ j (hj : j < fs.length), j < k → fs[j].nm ≠ s) (he : fs[k].nm = s) : fieldT (fts fs) s = (fs[k].ty, 0) := by
  rw [fieldT_hit (fts fs) s k (by rw [fts_len]; exact hk) (fun j hj hjk => by rw [fts_len] at hj; rw [fts_at fs j hj]; exact h j hj hjk) (by rw [fts_at fs k hk]; exact he), fts_at fs k hk]
theorem fieldT_fts_none {fs : List GenL.Fd} {s : ByteArray} (h : ∀ j (hj : j < fs.length), fs[j].nm ≠ s) : fieldT (fts fs) s = (0, 5) :=
  fieldT_none _ _ fun j hj => by rw [fts_len] at hj; rw [fts_at fs j hj]; exact h j hj

set_option maxHeartbeats 1000000 in
theorem field_any (s : ByteArray) (fs : List GenL.Fd) (FA : Option Addr) (fc : Nat) (w : World) (hf : Flds w FA fs) (hm : fs.length ≤ 1000000000000) :
    Calls Tryd.prog 57 #[.string s, .slice FA fs.length fc] w fun e w' => e = .returned (.tuple #[.int .i64 (fieldT (fts fs) s).1, .int .i64 (fieldT (fts fs) s).2]) ∧ w' = w := by
  obtain ⟨R, hR⟩ : ∃ R, fieldT (fts fs) s = R := ⟨_, rfl⟩
  have hgood := fun k hk h he => (fieldT_fts (fs := fs) (s := s) (k := k) hk h he).symm.trans hR
  have hbad := fun h => (fieldT_fts_none (fs := fs) (s := s) h).symm.trans hR
  rw [hR]
  have HG := Lib.hid hgood
  have HB := Lib.hid hbad
  have HF := Lib.hid hf
  clear hgood hbad hR hf
  go_enter Tryd.func57, Tryd.ntmps57
  go_wp2_with fail
  go_loopw [6, 9] (fun _ i wr => ∃ (k : Nat), i = .int .i64 k ∧ k ≤ fs.length ∧ (∀ j (hj : j < fs.length), j < k → fs[j].nm ≠ s) ∧ wr = w) (fun _ i _ => fs.length - (intOf i).toNat)
  case atStart => exact ⟨0, rfl, Nat.zero_le _, fun j hj hjk => absurd hjk (by omega), rfl⟩
  case round =>
    obtain ⟨k, rfl, hk, hall, rfl⟩ := hrel
    by_cases hlt : k < fs.length
    · obtain ⟨a, rfl, h0, h1, h2, h3⟩ := HF.out k hlt
      have hg := HG.out k hlt hall
      have hnext : fs[k].nm ≠ s → ∀ j (hj : j < fs.length), j < k + 1 → fs[j].nm ≠ s := fun e j hj hjk => by
        rcases Nat.lt_or_ge j k with h | h
        · exact hall j hj h
        · obtain rfl : j = k := by omega
          exact e
      obtain ⟨nm, hnm⟩ : ∃ a, fs[k].nm = a := ⟨_, rfl⟩
      obtain ⟨ty, hty⟩ : ∃ a, fs[k].ty = a := ⟨_, rfl⟩
      rw [hnm] at hg hnext h0
      rw [hty] at hg h2
      have HG2 := Lib.hid hg
      have HN := Lib.hid hnext
      clear hg hnext hall hnm hty h3 h1
      by_cases he : nm = s
      · obtain rfl := HG2.out he
        have t1 : (nm.toList == s.toList) = true := by rw [ByteArray.toList_eq, ByteArray.toList_eq, he]; simp
        go_wp2_with fail
        go_ret2
        exact ⟨rfl, rfl⟩
      · have t1 : (nm.toList == s.toList) = false := beq_eq_false_iff_ne.2 fun e => he (by
          rw [ByteArray.toList_eq, ByteArray.toList_eq] at e
          exact ByteArray.ext (Array.ext' e))
        go_wp2_with fail
        go_roundw
        case rel => exact ⟨k + 1, by go_num, by omega, HN.out he, by first | rfl | trivial⟩
        case measure => simp [intOf]; omega
    · obtain rfl := HB.out fun j hj => hall j hj (by omega)
      clear hall
      go_wp2_with fail
      go_ret2
      exact ⟨rfl, rfl⟩
end Go.Proofs.YthgcmficmodhiaaDoor.Ty
