/- Package rank: slices.Repeat of one number; all the ranks, pass by pass. -/
import Derived.Test.YthgcmficmodhiaaGreatDoorRkA
import Derived.Test.YthgcmficmodhiaaGreatDoorShelf
import Derived.Deep.RegionLaw
import Derived.Test.YthgcmficmodhiaaGreatDoorRegP
namespace Go.Proofs.YthgcmficmodhiaaGreatDoor.RkB
open Go.RowKit
open Kit RkM RkA RegI
set_option linter.unusedVariables false

theorem infoInt : (Tryz.prog.info? 3).map (fun i => (i.zero, i.size, i.bytes)) = some (some (.int .i64 0), 1, 8) := by kernel_rfl
theorem infoI1 : (Tryz.prog.info? 3).map (·.size) = some 1 := by kernel_rfl
theorem info_parts1 {t : TypeId} {z : Value} {s b : Nat} (h : (Tryz.prog.info? t).map (fun i => (i.zero, i.size, i.bytes)) = some (some z, s, b)) : ∃ i0, Tryz.prog.info? t = some i0 ∧ i0.zero = some z ∧ i0.size = s ∧ i0.bytes = b := by
  cases hi : Tryz.prog.info? t with
  | none => rw [hi] at h; cases h
  | some i0 =>
    rw [hi] at h
    simp only [Option.map_some, Option.some.injEq, Prod.mk.injEq] at h
    exact ⟨i0, rfl, h.1, h.2.1, h.2.2⟩
theorem own_blk {w : World} {base g n : Nat} {xs : List Value} {e : TypeId} (h : w.ownsRow base e 1 (.slice (some ⟨g, 0, none⟩) n n) n xs) : w.heap[g]? = some (.cells xs.toArray e (0, 0)) := by
  rcases h.2 with ⟨h', _⟩ | ⟨g', cap', cur, h', hb, hg, hnc, hcm, hcs, htake⟩
  · simp at h'
  · simp only [Value.slice.injEq, Option.some.injEq, Addr.mk.injEq, and_true, true_and] at h'
    obtain ⟨rfl, rfl⟩ := h'
    rw [hg, ← htake, List.take_of_length_le (by simp [hcs])]
theorem blk_own {w : World} {base g n : Nat} {xs : List Value} {e : TypeId} (h : w.heap[g]? = some (.cells xs.toArray e (0, 0))) (hl : xs.length = n) (hb : base ≤ g) (hm : n ≤ maxLen) : w.ownsRow base e 1 (.slice (some ⟨g, 0, none⟩) n n) n xs :=
  ⟨by omega, .inr ⟨g, n, xs.toArray, rfl, hb, h, Nat.le_refl _, hm, by simp [hl], by simp [List.take_of_length_le (Nat.le_of_eq hl)]⟩⟩
theorem cell_of_blk {w : World} {g j : Nat} {X : List Value} {e : TypeId} (h : w.heap[g]? = some (.cells X.toArray e (0, 0))) : w.cell? ((⟨g, 0, none⟩ : Addr).add j) = X[j]? := by
  have e1 : ((⟨g, 0, none⟩ : Addr).add j) = ⟨g, j, none⟩ := by unfold Addr.add; split; rename_i h; subst h; rfl; exact congrArg (fun o => (⟨g, o, none⟩ : Addr)) (Nat.zero_add j)
  rw [e1]; unfold World.cell?; rw [h]; simp
def RepOut (n : Nat) (w : World) (e : Ending) (w' : World) : Prop :=
  e = .returned (.slice (some ⟨w.heap.size, 0, none⟩) n n) ∧ w'.ownsRow w.heap.size 3 1 (.slice (some ⟨w.heap.size, 0, none⟩) n n) n (iV (List.replicate n (-1))) ∧ Below w.heap.size w w'
def FilledTo (X : List Value) (k : Nat) : Prop := ∀ j, j < k → X[j]? = some (.int .i64 (-1))
theorem filled_all {X : List Value} (h : FilledTo X X.length) : X = iV (List.replicate X.length (-1)) := by
  refine List.ext_getElem? fun j => ?_
  by_cases hj : j < X.length
  · rw [h j hj]; unfold iV; rw [List.map_replicate, List.getElem?_replicate, if_pos hj]
  · rw [List.getElem?_eq_none (by omega), List.getElem?_eq_none (by unfold iV; simp; omega)]
theorem filled_splice {X : List Value} {k m : Nat} (h : FilledTo X k) (hm : k + m ≤ X.length) : FilledTo (splice X k (List.replicate m (.int .i64 (-1)))) (k + m) := fun j hj => by
  unfold splice
  by_cases h1 : j < k
  · rw [List.getElem?_append_left (by simp; omega), List.getElem?_take, if_pos h1, h j h1]
  · rw [List.getElem?_append_right (by simp; omega), List.getElem?_append_left (by simp; omega), List.getElem?_replicate, if_pos (by simp; omega)]
set_option maxRecDepth 100000 in
set_option maxHeartbeats 4000000 in
theorem repeat_any (n B c : Nat) (w : World) (hn : n ≤ 1000) (hB : B < w.heap.size) (hx : w.cell? ⟨B, 0, none⟩ = some (.int .i64 (-1))) :
    Calls Tryz.prog 33 #[.slice (some ⟨B, 0, none⟩) 1 c, .int .i64 n] w (RepOut n w) := by
  obtain ⟨i0, hi, hz0, hz1, hz2⟩ := info_parts1 infoInt
  have hmul : ∀ V : World, Calls Tryz.prog 55 #[.int .u64 1, .int .u64 n] V fun e w' => e = .returned (.tuple #[.int .u64 0, .int .u64 n]) ∧ V = w' := fun V => by
    refine (Tryz.bits_Mul 1 n (by omega) (by omega) V).mono fun e w' hh => ?_
    rw [Nat.one_mul, Nat.div_eq_of_lt (by omega), Nat.mod_eq_of_lt (by omega)] at hh
    exact ⟨hh.1, hh.2.symm⟩
  have hwr : IntKind.u64.wrap (n : Int) = n := IntWalk.u64_in _ (by omega)
  have hwr2 : IntKind.i64.wrap (n : Int) = n := IntWalk.i64_in _ (by omega)
  have hfin : ∀ (X : List Value) (W : World), X.length = n → FilledTo X n → W.heap[w.heap.size]? = some (.cells X.toArray 3 (0, 0)) → Below w.heap.size w W → RepOut n w (.returned (.slice (some ⟨w.heap.size, 0, none⟩) n n)) W := fun X W hl hf hg hb => by
    refine ⟨rfl, ?_, hb⟩
    subst hl
    rw [← filled_all hf]
    exact blk_own hg rfl (Nat.le_refl _) (by unfold maxLen; omega)
  have hst : ∀ W : World, W.ownsRow w.heap.size 3 1 (.slice (some ⟨w.heap.size, 0, none⟩) n n) n (madeCells (Value.int .i64 0).cells (n * 1)).toList → w.grownBy W none → (W.heap[w.heap.size]? = some (.cells (madeCells (Value.int .i64 0).cells (n * 1)).toList.toArray 3 (0, 0)) ∧ (madeCells (Value.int .i64 0).cells (n * 1)).toList.length = n ∧ Below w.heap.size w W) ∧ (∀ (j : Nat) (v : Value), (List.replicate (min 1 n) (Value.int .i64 (-1)))[j]? = some v → W.cell? ((⟨B, 0, none⟩ : Addr).add j) = some v) := fun W h1 h2 => by
    have hb : Below w.heap.size w W := (Below.refl _ _).grown h2 (Nat.le_refl _) (fun k e => by cases e)
    refine ⟨⟨own_blk h1, by have := h1.1; omega, hb⟩, fun j v hj => ?_⟩
    rw [List.getElem?_replicate] at hj
    by_cases h : j < min 1 n
    · rw [if_pos h] at hj
      injection hj with hj
      obtain rfl : j = 0 := by omega
      rw [← hj]
      exact (hb.cell (p := ⟨B, 0, none⟩) hB).trans hx
    · rw [if_neg h] at hj; cases hj
  have hrep1 : ∀ (X : List Value) (k m : Nat), FilledTo X k → k + m ≤ X.length → FilledTo (splice X k (List.replicate m (Value.int .i64 (-1)))) (k + m) ∧ (splice X k (List.replicate m (Value.int .i64 (-1)))).length = X.length := fun X k m h hm => ⟨filled_splice h hm, length_splice _ _ _ (by simpa using hm)⟩
  have hone : ∀ (m : Nat), ∀ v ∈ List.replicate m (Value.int .i64 (-1)), v.oneCell' = true := fun m v hv => by rw [List.eq_of_mem_replicate hv]; rfl
  have HSt := Lib.hid hst
  have HRe := Lib.hid hrep1
  have HOne := Lib.hid hone
  clear hst hrep1 hone
  have HM := Lib.hid hmul
  have HFin := Lib.hid hfin
  have HX := Lib.hid hx
  have n0 : (0 : Int) ≤ (n : Int) := by omega
  have n1 : (n : Int) ≤ 1000 := by omega
  clear hmul hfin hx
  go_enter Tryz.func33, Tryz.ntmps33
  go_wp2_with (first
    | (go_at_call 55; refine (HM.out _).mono ?_; rintro e w1 ⟨rfl, rfl⟩)
    | (at_make; refine wpList_make_full _ rfl _ _ 23 rfl w.heap.size 3 i0 _ 1 Tryz.underlying23 hi hz0 hz1 .i64 .i64 _ _ n rfl rfl (by first | rfl | simp [hwr, hwr2]) (by first | rfl | simp [hwr, hwr2]) (by rw [hz2]; omega) (by unfold maxLen; omega) (Nat.le_refl _) ?_; intro w1 hown hgrow; have H1 := Lib.hid (And.intro hown hgrow); clear hown hgrow)
    | (refine wpList_copy_splice (o := ⟨some 33, _, _, _, _, _⟩) rfl (.tmp 31) (.tmp 32) 23 23 rfl 3 Tryz.underlying23 infoI1 (some ⟨w.heap.size, 0, none⟩) (some ⟨B, 0, none⟩) n n 1 c rfl rfl w.heap.size 0 (madeCells (Value.int .i64 0).cells (n * 1)).toList 3 (HSt.out _ H1.out.1 H1.out.2).1.1 (List.replicate (min 1 n) (.int .i64 (-1))) (by rw [List.length_replicate]) (fun _ => ⟨rfl, _, rfl, (HSt.out _ H1.out.1 H1.out.2).2⟩) (by rw [List.length_replicate, (HSt.out _ H1.out.1 H1.out.2).1.2.1]; omega) (HOne.out _) w.heap.size w (HSt.out _ H1.out.1 H1.out.2).1.2.2 (Nat.le_refl _) ?_; intro w2 HG2 hb2; have HB2 := Lib.hid hb2; clear hb2))
  go_loopw [8] (fun s8 wr => ∃ (k : Nat) (X : List Value), s8 = .int .i64 k ∧ k ≤ n ∧ (1 ≤ k ∨ n = 0) ∧ X.length = n ∧ FilledTo X k ∧ wr.heap[w.heap.size]? = some (.cells X.toArray 3 (0, 0)) ∧ Below w.heap.size w wr) (fun s8 _ => n - (intOf s8).toNat)
  case atStart =>
    have h1 := HRe.out (madeCells (Value.int .i64 0).cells (n * 1)).toList 0 (min 1 n) (fun j hj => absurd hj (by omega)) (by rw [(HSt.out _ H1.out.1 H1.out.2).1.2.1]; omega)
    rw [(HSt.out _ H1.out.1 H1.out.2).1.2.1, Nat.zero_add] at h1
    exact ⟨min 1 n, _, by simp, by omega, by omega, h1.2, h1.1, HG2.out, HB2.out⟩
  case round =>
    obtain ⟨k, X, rfl, hk, hk1, hl, hf, hg, hb⟩ := hrel
    by_cases hlt : k < n
    · have hk1' : 1 ≤ k := by omega
      have hsrc : ∀ (j : Nat) (v : Value), (List.replicate (min k (n - k)) (Value.int .i64 (-1)))[j]? = some v → wr.cell? ((⟨w.heap.size, 0, none⟩ : Addr).add j) = some v := fun j v hj => by
        rw [List.getElem?_replicate] at hj
        by_cases h : j < min k (n - k)
        · rw [if_pos h] at hj
          rw [cell_of_blk hg, hf j (by omega)]; exact hj
        · rw [if_neg h] at hj; cases hj
      have hr1 := HRe.out X k (min k (n - k)) hf (by omega)
      have HR1 := Lib.hid hr1
      have HG := Lib.hid hg
      have HS := Lib.hid hsrc
      have HB := Lib.hid hb
      have HL := Lib.hid hl
      have ki : (k : Int) < (n : Int) := by omega
      have k1i : (1 : Int) ≤ (k : Int) := by omega
      have hnk : ¬ n = k := by omega
      have hsl1 : ∀ V : World, (Instr.sliceAt 23 (.slice (some ⟨w.heap.size, 0, none⟩) n n) (some (.int .i64 k)) none none).run Tryz.prog V = .ok (.slice (some ⟨w.heap.size, k, none⟩) (n - k) (n - k)) V := fun V => by simp [go_sem, Tryz.underlying23, hnk, Nat.le_of_lt hlt]
      have hsl2 : ∀ V : World, (Instr.sliceAt 23 (.slice (some ⟨w.heap.size, 0, none⟩) n n) none (some (.int .i64 k)) none).run Tryz.prog V = .ok (.slice (some ⟨w.heap.size, 0, none⟩) k n) V := fun V => by simp [go_sem, Tryz.underlying23, Nat.le_of_lt hlt]
      have hadd : ∀ V : World, (do eqGuard .add 3 (.tmp 38) (.tmp 45) (.int .i64 k) (.int .i64 ((min k (n - k) : Nat) : Int)); binOp .add 3 (.int .i64 k) (.int .i64 ((min k (n - k) : Nat) : Int)) : Sem Value).run Tryz.prog V = .ok (.int .i64 ((k + min k (n - k) : Nat) : Int)) V := fun V => by
        rw [Int.natCast_add]; simp [go_sem, eqGuard, IntWalk.i64_in ((k : Int) + ((min k (n - k) : Nat) : Int)) (by omega)]
      clear hr1 hg hsrc hb hf hl hk1
      go_upto_region 9 with fail
      refine region_fill0 [(0, 38), (1, 39), (2, 40), (3, 41), (4, 42), (5, 43), (6, 44), (7, 45), (8, 46), (9, 8)] (JPW (fun i => match i with | 0 => .int .i64 k | 1 => .slice (some ⟨w.heap.size, 0, none⟩) n n | 2 => .int .i64 k | 3 => .slice (some ⟨w.heap.size, k, none⟩) (n - k) (n - k) | 4 => .slice (some ⟨w.heap.size, 0, none⟩) n n | 5 => .int .i64 k | 6 => .slice (some ⟨w.heap.size, 0, none⟩) k n | 7 => .int .i64 ((min k (n - k) : Nat) : Int) | 8 => .int .i64 ((k + min k (n - k) : Nat) : Int) | 9 => .int .i64 ((k + min k (n - k) : Nat) : Int) | _ => undef) 7 9 (.int .i64 k) (fun V => V.heap[w.heap.size]? = some (.cells X.toArray 3 (0, 0)) ∧ (∀ (j : Nat) (v : Value), (List.replicate (min k (n - k)) (Value.int .i64 (-1)))[j]? = some v → V.cell? ((⟨w.heap.size, 0, none⟩ : Addr).add j) = some v) ∧ Below w.heap.size w V) (fun V => V.heap[w.heap.size]? = some (.cells (splice X k (List.replicate (min k (n - k)) (Value.int .i64 (-1)))).toArray 3 (0, 0)) ∧ Below w.heap.size w V)) (fun f => by simp only [fill, Act.put, List.setIfInBounds_toArray, List.set_cons_zero, List.set_cons_succ]; rfl) (by kernel_rfl) (by kernel_rfl) (by kernel_rfl) (jpw_start (⟨HG.out, HS.out, b_drew HB.out⟩) (by kernel_rfl)) ?_ ?_
      · intro F hFr
        refine ⟨?_, ?_, ?_, ?_, ?_, ?_, ?_, ?_, ?_, ?_, trivial⟩
        · as_aux_lemma =>
          intro D f wx hJ hD hdep K9 hK
          have ew : f 9 = _ := jpw_v0 hJ (by decide) hD
          exact stepF_val rfl (op_move rfl (v := .int .i64 k) ((show _ = f 9 from by rw [hFr]; kernel_rfl).trans ew)) (by rw [hFr, hFr]; kernel_rfl) (hK (updf f 0 (.int .i64 k)) _ (jpw_pure hJ (by decide) (by decide) rfl))
        · as_aux_lemma =>
          intro D f wx hJ hD hdep K9 hK
          exact stepF_val rfl (op_move rfl (v := .slice (some ⟨w.heap.size, 0, none⟩) n n) (by rw [hFr]; kernel_rfl)) (by rw [hFr, hFr]; kernel_rfl) (hK (updf f 1 (.slice (some ⟨w.heap.size, 0, none⟩) n n)) _ (jpw_pure hJ (by decide) (by decide) rfl))
        · as_aux_lemma =>
          intro D f wx hJ hD hdep K9 hK
          have ew : f 9 = _ := jpw_v0 hJ (by decide) hD
          exact stepF_val rfl (op_move rfl (v := .int .i64 k) ((show _ = f 9 from by rw [hFr]; kernel_rfl).trans ew)) (by rw [hFr, hFr]; kernel_rfl) (hK (updf f 2 (.int .i64 k)) _ (jpw_pure hJ (by decide) (by decide) rfl))
        · as_aux_lemma =>
          intro D f wx hJ hD hdep K9 hK
          have e1 : f 1 = _ := hJ.1.1 1 (done hdep 1 (by kernel_rfl))
          have e2 : f 2 = _ := hJ.1.1 2 (done hdep 2 (by kernel_rfl))
          have hl : (Instr.sliceAt 23 (.slice (some ⟨w.heap.size, 0, none⟩) n n) (some (.int .i64 k)) none none).run Tryz.prog wx = .ok (.slice (some ⟨w.heap.size, k, none⟩) (n - k) (n - k)) wx := hsl1 wx
          exact stepF_val rfl (op_slice rfl (p := .slice (some ⟨w.heap.size, 0, none⟩) n n) ((show _ = f 1 from by rw [hFr]; kernel_rfl).trans e1) (congrArg some ((show _ = f 2 from by rw [hFr]; kernel_rfl).trans e2)) rfl rfl hl) (by rw [hFr, hFr]; kernel_rfl) (hK (updf f 3 (.slice (some ⟨w.heap.size, k, none⟩) (n - k) (n - k))) _ (jpw_pure hJ (by decide) (by decide) rfl))
        · as_aux_lemma =>
          intro D f wx hJ hD hdep K9 hK
          exact stepF_val rfl (op_move rfl (v := .slice (some ⟨w.heap.size, 0, none⟩) n n) (by rw [hFr]; kernel_rfl)) (by rw [hFr, hFr]; kernel_rfl) (hK (updf f 4 (.slice (some ⟨w.heap.size, 0, none⟩) n n)) _ (jpw_pure hJ (by decide) (by decide) rfl))
        · as_aux_lemma =>
          intro D f wx hJ hD hdep K9 hK
          have ew : f 9 = _ := jpw_v0 hJ (by decide) hD
          exact stepF_val rfl (op_move rfl (v := .int .i64 k) ((show _ = f 9 from by rw [hFr]; kernel_rfl).trans ew)) (by rw [hFr, hFr]; kernel_rfl) (hK (updf f 5 (.int .i64 k)) _ (jpw_pure hJ (by decide) (by decide) rfl))
        · as_aux_lemma =>
          intro D f wx hJ hD hdep K9 hK
          have e4 : f 4 = _ := hJ.1.1 4 (done hdep 4 (by kernel_rfl))
          have e5 : f 5 = _ := hJ.1.1 5 (done hdep 5 (by kernel_rfl))
          have hl : (Instr.sliceAt 23 (.slice (some ⟨w.heap.size, 0, none⟩) n n) none (some (.int .i64 k)) none).run Tryz.prog wx = .ok (.slice (some ⟨w.heap.size, 0, none⟩) k n) wx := hsl2 wx
          exact stepF_val rfl (op_slice rfl (p := .slice (some ⟨w.heap.size, 0, none⟩) n n) ((show _ = f 4 from by rw [hFr]; kernel_rfl).trans e4) rfl (congrArg some ((show _ = f 5 from by rw [hFr]; kernel_rfl).trans e5)) rfl hl) (by rw [hFr, hFr]; kernel_rfl) (hK (updf f 6 (.slice (some ⟨w.heap.size, 0, none⟩) k n)) _ (jpw_pure hJ (by decide) (by decide) rfl))
        · as_aux_lemma =>
          intro D f wx hJ hD hdep K9 hK
          have e3 : f 3 = _ := hJ.1.1 3 (done hdep 3 (by kernel_rfl))
          have e6 : f 6 = _ := hJ.1.1 6 (done hdep 6 (by kernel_rfl))
          obtain ⟨hA1, hA2, hA3⟩ := hJ.1.2.1 hD
          refine step_copy_splice rfl (.tmp 41) (.tmp 44) 23 23 rfl 3 Tryz.underlying23 infoI1 (some ⟨w.heap.size, k, none⟩) (some ⟨w.heap.size, 0, none⟩) (n - k) (n - k) k n ((show _ = f 3 from by rw [hFr]; kernel_rfl).trans e3) ((show _ = f 6 from by rw [hFr]; kernel_rfl).trans e6) w.heap.size k X 3 hA1 (List.replicate (min k (n - k)) (.int .i64 (-1))) (by rw [List.length_replicate]) (fun _ => ⟨rfl, _, rfl, hA2⟩) (by rw [List.length_replicate, HL.out]; omega) (HOne.out _) w.heap.size w hA3 (Nat.le_refl _) ?_
          intro w4 HG4 hb4
          rw [List.length_replicate]
          have hk := hK (updf f 7 (.int .i64 ((min k (n - k) : Nat) : Int))) w4 (jpw_eff hJ (by decide) rfl ⟨HG4.out, hb4⟩)
          rw [hFr] at hk ⊢
          exact hk
        · as_aux_lemma =>
          intro D f wx hJ hD hdep K9 hK
          have e0 : f 0 = _ := hJ.1.1 0 (done hdep 0 (by kernel_rfl))
          have e7 : f 7 = _ := hJ.1.1 7 (done hdep 7 (by kernel_rfl))
          have hl : (do eqGuard .add 3 (.tmp 38) (.tmp 45) (.int .i64 k) (.int .i64 ((min k (n - k) : Nat) : Int)); binOp .add 3 (.int .i64 k) (.int .i64 ((min k (n - k) : Nat) : Int)) : Sem Value).run Tryz.prog wx = .ok (.int .i64 ((k + min k (n - k) : Nat) : Int)) wx := hadd wx
          exact stepF_val rfl (op_bin rfl (p := .int .i64 k) (q := .int .i64 ((min k (n - k) : Nat) : Int)) ((show _ = f 0 from by rw [hFr]; kernel_rfl).trans e0) ((show _ = f 7 from by rw [hFr]; kernel_rfl).trans e7) hl) (by rw [hFr, hFr]; kernel_rfl) (hK (updf f 8 (.int .i64 ((k + min k (n - k) : Nat) : Int))) _ (jpw_pure hJ (by decide) (by decide) rfl))
        · as_aux_lemma =>
          intro D f wx hJ hD hdep K9 hK
          have hal : ∀ j, j < 9 → D j = true := fun j hj => by match j, hj with | 0, _ => exact done hdep 0 (by kernel_rfl) | 1, _ => exact done hdep 1 (by kernel_rfl) | 2, _ => exact done hdep 2 (by kernel_rfl) | 3, _ => exact done hdep 3 (by kernel_rfl) | 4, _ => exact done hdep 4 (by kernel_rfl) | 5, _ => exact done hdep 5 (by kernel_rfl) | 6, _ => exact done hdep 6 (by kernel_rfl) | 7, _ => exact done hdep 7 (by kernel_rfl) | 8, _ => exact done hdep 8 (by kernel_rfl)
          have e8 : f 8 = _ := hJ.1.1 8 (done hdep 8 (by kernel_rfl))
          exact stepF_val rfl (op_assign rfl (v := .int .i64 ((k + min k (n - k) : Nat) : Int)) ((show _ = f 8 from by rw [hFr]; kernel_rfl).trans e8)) (by rw [hFr, hFr]; kernel_rfl) (hK (updf f 9 (.int .i64 ((k + min k (n - k) : Nat) : Int))) _ (jpw_last hJ (by decide) rfl hal))
      · intro D f wx hJ hall
        obtain ⟨hG4, hB4⟩ := hJ.1.2.2 (hall 7 (by decide))
        have e9 : f 9 = .int .i64 ((k + min k (n - k) : Nat) : Int) := hJ.1.1 9 (hall 9 (by decide))
        have hk2 : k + min k (n - k) ≤ n := by omega
        have hk3 : 1 ≤ min k (n - k) := by omega
        have HG4 := Lib.hid hG4
        have HB4 := Lib.hid hB4
        rw [e9]
        clear e9 hG4 hB4 hJ hall hsl1 hsl2 hadd
        go_roundw
        case rel => exact ⟨.int .i64 ((k + min k (n - k) : Nat) : Int), _, _, _, _, _, _, _, _, _, _, _, _, _, ⟨k + min k (n - k), _, rfl, by omega, by omega, HR1.out.2.trans HL.out, HR1.out.1, HG4.out, HB4.out⟩, rfl⟩
        case measure => simp [intOf]; omega
    · obtain rfl : k = n := by omega
      have hO := HFin.out X wr hl hf hg hb
      have HO := Lib.hid hO
      clear hO hl hf hg hb hk1
      go_wp2_with fail
      go_ret
      exact HO.out
end Go.Proofs.YthgcmficmodhiaaGreatDoor.RkB
