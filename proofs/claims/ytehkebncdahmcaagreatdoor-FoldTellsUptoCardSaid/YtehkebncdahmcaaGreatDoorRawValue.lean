/- Contract of the statements' own helper Value: some value of a type, made out of raw numbers and a string. -/
import Derived.Test.YtehkebncdahmcaaGreatDoorChecked
import Derived.Test.YtehkebncdahmcaaGreatDoorKit
import Derived.Test.YtehkebncdahmcaaGreatDoorClean
import Derived.Test.YtehkebncdahmcaaGreatDoorWithin
import Derived.Test.YtehkebncdahmcaaGreatDoorValueMath
namespace Go.Proofs.YtehkebncdahmcaaGreatDoor.RawV
open Go.RowKit
open Kit Clean Within NumM ValM
set_option linter.unusedVariables false

def vK (k : Int) : Int := if k = 1 then 1 else if k = 2 then 2 else 3
def vN (k rk ra : Int) : Int := if k = 1 then (if pick rk 7 = 0 then pick ra 2199023255553 - 1099511627776 else pick ra 40 - 12) else if k = 2 then pick ra 2 else 0
def vS (k : Int) (t : ByteArray) : ByteArray := if k = 1 then ⟨#[]⟩ else if k = 2 then ⟨#[]⟩ else ⟨(cleanF t.data.toList 8).toArray⟩

theorem clean_of (l : List UInt8) (m : Nat) : cleanL (cleanF l m) = true := by
  unfold cleanL cleanF
  rw [List.all_eq_true]
  intro c hc
  obtain ⟨d, _, rfl⟩ := List.mem_map.1 hc
  have : (cl d).toNat = 32 + d.toNat % 95 := by have := cl_val d; omega
  simp only [Bool.and_eq_true, decide_eq_true_eq]
  omega

theorem vK_type (k : Int) : isT (vK k) = true := by
  unfold vK isT
  by_cases h1 : k = 1
  · rw [if_pos h1]; rfl
  · rw [if_neg h1]
    by_cases h2 : k = 2
    · rw [if_pos h2]; rfl
    · rw [if_neg h2]; rfl

theorem v_known (k rk ra : Int) (t : ByteArray) : knownB (vK k) (vN k rk ra) (vS k t).data.toList = true := by
  have hz : valE (vK k) (vN k rk ra) (vS k t).data.toList = 0 := by
    unfold vK vN vS
    by_cases h1 : k = 1
    · simp only [if_pos h1]
      have a := pick_bd ra 2199023255553 (by omega)
      have b := pick_bd ra 40 (by omega)
      have : okN (if pick rk 7 = 0 then pick ra 2199023255553 - 1099511627776 else pick ra 40 - 12) = true := by
        apply okN_iff.2
        by_cases g : pick rk 7 = 0
        · rw [if_pos g]; omega
        · rw [if_neg g]; omega
      unfold valE numE
      rw [if_pos rfl, if_pos this, if_pos rfl]; rfl
    · simp only [if_neg h1]
      by_cases h2 : k = 2
      · simp only [if_pos h2]
        have a := pick_bd ra 2 (by omega)
        have e : numE 2 (pick ra 2) = 0 := by unfold numE; rw [if_neg (by omega), if_pos rfl, if_pos (by omega)]
        unfold valE
        rw [if_pos e]; rfl
      · simp only [if_neg h2]
        have e : numE 3 0 = 0 := rfl
        unfold valE
        rw [if_pos e]
        show strE 3 (cleanF t.data.toList 8) = 0
        apply strE_clean
        · unfold cleanF; rw [List.length_map, List.length_take]; omega
        · exact clean_of _ _
  unfold knownB
  rw [vK_type, hz]; rfl

theorem value_any (k rk ra rb : Int) (t : ByteArray) (w : World) (h1 : (Lit.int .i64 rk).wf = true) (h2 : (Lit.int .i64 ra).wf = true) (h3 : t.size ≤ maxLen) :
    Calls Tryz.prog 28 #[.int .i64 k, .agg #[.int .i64 rk, .int .i64 ra, .int .i64 rb, .string t]] w fun e w' => e = .returned (.agg #[.int .i64 (vK k), .int .i64 (vN k rk ra), .string (vS k t)]) ∧ Below w.heap.size w w' := by
  by_cases e1 : k = 1
  · subst e1
    have hv : vK 1 = 1 ∧ vS 1 t = ⟨#[]⟩ := ⟨rfl, rfl⟩
    rw [hv.1, hv.2]
    clear hv
    obtain ⟨p, hp⟩ : ∃ p, pick rk 7 = p := ⟨_, rfl⟩
    have c1 := fun W => picked_any rk 7 W h1 (by omega) (by omega)
    rw [hp] at c1
    have C1 := Lib.hid c1
    by_cases hp0 : p = 0
    · have hn : vN 1 rk ra = pick ra 2199023255553 - 1099511627776 := by unfold vN; rw [if_pos rfl, hp, if_pos hp0]
      rw [hn]
      obtain ⟨q, hq⟩ : ∃ q, pick ra 2199023255553 = q := ⟨_, rfl⟩
      have hb := pick_bd ra 2199023255553 (by omega)
      have c2 := fun W => picked_any ra 2199023255553 W h2 (by omega) (by omega)
      rw [hq] at c2 hb ⊢
      obtain ⟨hb1, hb2⟩ := hb
      have C2 := Lib.hid c2
      subst hp0
      clear c1 c2 hp hq hn h1 h2
      go_enter Tryz.func28, Tryz.ntmps28
      go_wp2_with fail
      refine (C1.out _).mono ?_; rintro e w1 ⟨rfl, rfl⟩
      go_wp2_with fail
      refine (C2.out _).mono ?_; rintro e w1 ⟨rfl, rfl⟩
      go_wp2_with fail
      refine bodyPost_ret (v := .agg #[.int .i64 1, .int .i64 (q - 1099511627776), .string ⟨#[]⟩]) (by simp [results, Tryz.results28, go_sem]) rfl ⟨rfl, b_more (b_new _ _) _⟩
    · have hn : vN 1 rk ra = pick ra 40 - 12 := by unfold vN; rw [if_pos rfl, hp, if_neg hp0]
      rw [hn]
      obtain ⟨q, hq⟩ : ∃ q, pick ra 40 = q := ⟨_, rfl⟩
      have hb := pick_bd ra 40 (by omega)
      have c2 := fun W => picked_any ra 40 W h2 (by omega) (by omega)
      rw [hq] at c2 hb ⊢
      obtain ⟨hb1, hb2⟩ := hb
      have C2 := Lib.hid c2
      have hp1 : (p == 0) = false := beq_eq_false_iff_ne.2 hp0
      clear c1 c2 hp hq hn h1 h2 hp0
      go_enter Tryz.func28, Tryz.ntmps28
      go_wp2_with fail
      refine (C1.out _).mono ?_; rintro e w1 ⟨rfl, rfl⟩
      go_wp2_with fail
      refine (C2.out _).mono ?_; rintro e w1 ⟨rfl, rfl⟩
      go_wp2_with fail
      refine bodyPost_ret (v := .agg #[.int .i64 1, .int .i64 (q - 12), .string ⟨#[]⟩]) (by simp [results, Tryz.results28, go_sem]) rfl ⟨rfl, b_more (b_new _ _) _⟩
  · by_cases e2 : k = 2
    · subst e2
      have hv : vK 2 = 2 ∧ vS 2 t = ⟨#[]⟩ ∧ vN 2 rk ra = pick ra 2 := ⟨rfl, rfl, rfl⟩
      rw [hv.1, hv.2.1, hv.2.2]
      clear hv
      obtain ⟨q, hq⟩ : ∃ q, pick ra 2 = q := ⟨_, rfl⟩
      have c2 := fun W => picked_any ra 2 W h2 (by omega) (by omega)
      rw [hq] at c2 ⊢
      have C2 := Lib.hid c2
      clear c2 hq h1 h2 e1
      go_enter Tryz.func28, Tryz.ntmps28
      go_wp2_with fail
      refine (C2.out _).mono ?_; rintro e w1 ⟨rfl, rfl⟩
      go_wp2_with fail
      refine bodyPost_ret (v := .agg #[.int .i64 2, .int .i64 q, .string ⟨#[]⟩]) (by simp [results, Tryz.results28, go_sem]) rfl ⟨rfl, b_more (b_new _ _) _⟩
    · have hv : vK k = 3 ∧ vS k t = ⟨(cleanF t.data.toList 8).toArray⟩ ∧ vN k rk ra = 0 := by
        unfold vK vS vN; simp [e1, e2]
      rw [hv.1, hv.2.1, hv.2.2]
      have c2 : ∀ W : World, Calls Tryz.prog 48 #[.string t, .int .i64 8] W fun e w' => e = .returned (.string ⟨(cleanF t.data.toList 8).toArray⟩) ∧ Below W.heap.size W w' := fun W => clean_any t 8 W h3 (by omega)
      obtain ⟨r, hr⟩ : ∃ r, ByteArray.mk (cleanF t.data.toList 8).toArray = r := ⟨_, rfl⟩
      rw [hr] at c2 ⊢
      have C2 := Lib.hid c2
      have k1 : (k == 1) = false := beq_eq_false_iff_ne.2 e1
      have k2 : (k == 2) = false := beq_eq_false_iff_ne.2 e2
      clear c2 hr h1 h2 h3 e1 e2 hv
      go_enter Tryz.func28, Tryz.ntmps28
      go_wp2_with fail
      refine (C2.out _).mono ?_; rintro e w1 ⟨rfl, hb1⟩
      obtain ⟨d0, d1⟩ := bcell hb1
      have hz : w.heap.size + 1 < w1.heap.size := Nat.lt_of_lt_of_le (by simp) hb1.size
      go_wp2_with fail
      refine bodyPost_ret (v := .agg #[.int .i64 3, .int .i64 0, .string r]) (by simp [results, Tryz.results28, go_sem, d0]) rfl ⟨rfl, (((b_then (b_then hb1)).setCell (by simp) _).setCell (by simp) _).setCell (by simp) _⟩
end Go.Proofs.YtehkebncdahmcaaGreatDoor.RawV
