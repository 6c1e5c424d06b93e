/- Contracts of the statements' own helpers picked and within: some number of a kind, made out of any number. Contract of the statements' own helper clean: some text, made out of any string. Contract of the statements' own helper Value: some value of a type, made out of raw numbers and a string. -/
import Derived.Test.YtdlfhldboagbeaaGreatDoorChecked
import Derived.WalkKit
import Derived.ProofKit
import Derived.Test.YtdlfhldboagbeaaGreatDoorKit
import Derived.Lib.ConvBytes
import Derived.Lib.AtoiErrMem
import Derived.Laws.IdiomStrings
import Derived.WalkSpells
import Derived.WalkLawsBesides
import Derived.Outline
import Derived.Lib.Hide
import Derived.Deep.LoopGhost
import Derived.Test.YtdlfhldboagbeaaGreatDoorBase
namespace Go.Proofs.YtdlfhldboagbeaaGreatDoor.Within
open Go.RowKit
set_option linter.unusedVariables false
theorem ret_int {k : IntKind} {a b : Int} (h : a = b) : Ending.returned (.int k a) = .returned (.int k b) := by rw [h]

/-- picked: a number below 'many', out of any number. -/
def pick (n many : Int) : Int := (if n < 0 then -(n + 1) else n) % many
theorem pick_bd (n many : Int) (h : 0 < many) : 0 ≤ pick n many ∧ pick n many < many :=
  ⟨Int.emod_nonneg _ (by omega), Int.emod_lt_of_pos _ h⟩

theorem picked_any (n many : Int) (w : World) (hn : (Lit.int .i64 n).wf = true) (h : 0 < many) (h2 : many ≤ 9223372036854775807) :
    Calls Tryz.prog 37 #[.int .i64 n, .int .i64 many] w fun e w' => e = .returned (.int .i64 (pick n many)) ∧ w = w' := by
  obtain ⟨b1, b2⟩ : -9223372036854775808 ≤ n ∧ n ≤ 9223372036854775807 := by
    have hh := hn
    have hmin : IntKind.i64.min = -9223372036854775808 := rfl
    have hmax : IntKind.i64.max = 9223372036854775807 := rfl
    simp only [Lit.wf, Bool.and_eq_true, decide_eq_true_eq] at hh
    omega
  clear hn
  by_cases hs : n < 0
  · obtain ⟨p, hp⟩ : ∃ p, pick n many = p := ⟨_, rfl⟩
    rw [hp]
    unfold pick at hp
    rw [if_pos hs] at hp
    have HP : Hid (-(n + 1) % many = p) := hp
    clear hp
    go_enter Tryz.func37, Tryz.ntmps37
    go_wp2
    go_ret
    exact ⟨ret_int (by rw [← Int.neg_tmod, Int.tmod_eq_emod_of_nonneg (by omega)]; exact HP.out), rfl⟩
  · obtain ⟨p, hp⟩ : ∃ p, pick n many = p := ⟨_, rfl⟩
    rw [hp]
    unfold pick at hp
    rw [if_neg hs] at hp
    have HP : Hid (n % many = p) := hp
    clear hp
    go_enter Tryz.func37, Tryz.ntmps37
    go_wp2
    go_ret
    exact ⟨ret_int (by first | rfl | exact HP.out), rfl⟩

end Go.Proofs.YtdlfhldboagbeaaGreatDoor.Within
namespace Go.Proofs.YtdlfhldboagbeaaGreatDoor.Clean
open Go.RowKit Go.Lib
open Kit
set_option linter.unusedVariables false

def cl (c : UInt8) : UInt8 := UInt8.ofNat (32 + c.toNat % 95)
/-- What clean makes of a string. -/
def cleanF (l : List UInt8) (m : Nat) : List UInt8 := (l.take m).map cl

theorem conv (w : World) (t : ByteArray) : ∃ (W1 : World) (cap : Nat), (convert 9 77 (.string t)).run Tryz.prog w = .ok (.slice (some ⟨w.heap.size, 0, none⟩) t.size cap) W1 ∧
    (∀ j, j < t.size → W1.cell? ⟨w.heap.size, j, none⟩ = some (.int .u8 (t.data.toList.getD j 0).toNat)) ∧ (∀ j, j < t.size → W1.frozen? ⟨w.heap.size, j, none⟩ = false) ∧ W1.heap.size = w.heap.size + 1 ∧ Below w.heap.size w W1 := by
  refine ⟨_, _, Lib.run_convert_string_bytes (P := Tryz.prog) w 9 77 5 t Tryz.underlying9 Tryz.underlying77 Tryz.underlying5, fun j hj => bytesWorld_cell w _ t j hj, fun j hj => ?_, bytesWorld_size w _ t, bytesWorld_below w _ t⟩
  have hle : t.size ≤ (bytesCells w 5 t).size := by simp [bytesCells]
  simp only [World.frozen?, bytesWorld_at_new]
  simp
  omega

/-- The cells while the loop runs: the first k are turned. -/
def turned (t : ByteArray) (k j : Nat) : Value := .int .u8 (if j < k then (cl (t.data.toList.getD j 0)).toNat else (t.data.toList.getD j 0).toNat : Nat)

theorem cl_val (c : UInt8) : ((cl c).toNat : Int) = 32 + (c.toNat : Int) % 95 := by
  unfold cl
  have : (32 + c.toNat % 95) < 256 := by omega
  rw [UInt8.toNat_ofNat', Nat.mod_eq_of_lt (by simpa using this)]
  omega

structure Inv (B : Nat) (w : World) (t : ByteArray) (k : Nat) (wr : World) : Prop where
  le : k ≤ t.size
  cell : ∀ j, j < t.size → wr.cell? ⟨B, j, none⟩ = some (turned t k j)
  free : ∀ j, j < t.size → wr.frozen? ⟨B, j, none⟩ = false
  below : Below B w wr

theorem Inv.step {B : Nat} {w : World} {t : ByteArray} {k : Nat} {wr : World} (h : Inv B w t k wr) (hk : k < t.size) :
    Inv B w t (k + 1) (wr.setCell ⟨B, k, none⟩ (.int .u8 (32 + ((t.data.toList.getD k 0).toNat : Int) % 95))) where
  le := hk
  cell := fun j hj => by
    by_cases e : j = k
    · subst e
      rw [World.cell?_setCell_same _ _ _ (h.cell j hj)]
      unfold turned
      rw [if_pos (by omega), cl_val]
    · rw [World.cell?_setCell_other _ _ _ _ (by intro g; apply e; simpa using g.symm), h.cell j hj]
      unfold turned
      by_cases g : j < k
      · rw [if_pos g, if_pos (by omega)]
      · rw [if_neg g, if_neg (by omega)]
  free := fun j hj => by rw [World.frozen?_setCell]; exact h.free j hj
  below := h.below.setCell (by simp) _

theorem core (s t : ByteArray) (m : Nat) (w : World) (hs : t.size ≤ 1000) (hcase : (s.size ≤ m ∧ t = s) ∨ (m < s.size ∧ s.extract 0 m = t)) (hss : s.size ≤ 9223372036854775807) (hm : m ≤ 1000) :
    Calls Tryz.prog 125 #[.string s, .int .i64 m] w fun e w' => e = .returned (.string ⟨(t.data.toList.map cl).toArray⟩) ∧ Below w.heap.size w w' := by
  obtain ⟨W1, cap, hc, hcell, hfz, hsz, hbel⟩ := conv w t
  have h0 : Inv w.heap.size w t 0 W1 := ⟨Nat.zero_le _, fun j hj => by rw [hcell j hj]; unfold turned; rw [if_neg (by omega)], hfz, hbel⟩
  have H0 := Lib.hid h0
  clear hcell hfz hsz hbel h0
  rcases hcase with ⟨h1, rfl⟩ | ⟨h1, ht⟩
  all_goals
    go_enter Tryz.func125, Tryz.ntmps125
    go_wp2
    go_loopw [6, 7, 17] (fun _ _ i wr => ∃ k : Nat, i = .int .i64 k ∧ Inv w.heap.size w t k wr) (fun _ _ i _ => t.size - (intOf i).toNat)
    case atStart => exact ⟨0, rfl, H0.out⟩
    case round =>
      obtain ⟨k, rfl, hI⟩ := hrel
      by_cases hlt : k < t.size
      · have hS := Lib.hid (hI.step hlt)
        have hc1 := hI.cell k hlt
        have hf1 := hI.free k hlt
        have hv : turned t k k = .int .u8 ((t.data.toList.getD k 0).toNat : Nat) := by unfold turned; rw [if_neg (by omega)]
        rw [hv] at hc1
        obtain ⟨c, hcc⟩ : ∃ c : Nat, (t.data.toList.getD k 0).toNat = c := ⟨_, rfl⟩
        have hc256 : c < 256 := by rw [← hcc]; exact (t.data.toList.getD k 0).toNat_lt
        rw [hcc] at hc1 hS
        clear hv hcc hI
        go_wp2
        go_roundw
        case rel => exact ⟨k + 1, by go_num, hS.out⟩
        case measure => simp [intOf]; omega
      · have hk : k = t.size := by have := hI.le; omega
        have hback : (convert 77 9 (.slice (some ⟨w.heap.size, 0, none⟩) t.size cap)).run Tryz.prog wr = .ok (.string ⟨(t.data.toList.map cl).toArray⟩) wr := by
          have := run_convert_bytes_back (P := Tryz.prog) wr 77 9 5 ⟨w.heap.size, 0, none⟩ cap (t.data.toList.map cl) Tryz.underlying77 Tryz.underlying5 Tryz.underlying9 (fun j hj => by
            have hj' : j < t.size := by simpa using hj
            have h2 := hI.cell j hj'
            unfold turned at h2
            rw [if_pos (by omega)] at h2
            have e : (⟨w.heap.size, 0, none⟩ : Addr).add j = ⟨w.heap.size, j, none⟩ := by simp only [Addr.add]; simp; exact fun h => h.symm
            rw [e, h2]
            have h3 : j < t.data.toList.length := hj'
            simp [List.getD, List.getElem?_eq_getElem h3])
          have e2 : (t.data.toList.map cl).length = t.size := by simp
          rw [e2] at this
          exact this
        have hb := hI.below
        clear hI H0
        subst hk
        go_wp2
        go_ret
        exact ⟨rfl, hb⟩

theorem clean_any (s : ByteArray) (m : Nat) (w : World) (hs : s.size ≤ maxLen) (hm : m ≤ 1000) :
    Calls Tryz.prog 125 #[.string s, .int .i64 m] w fun e w' => e = .returned (.string ⟨(cleanF s.data.toList m).toArray⟩) ∧ Below w.heap.size w w' := by
  unfold maxLen at hs
  by_cases h : s.size ≤ m
  · have := core s s m w (by omega) (.inl ⟨h, rfl⟩) hs hm
    unfold cleanF
    rw [List.take_of_length_le h]
    exact this
  · have e : (s.extract 0 m).data.toList = s.data.toList.take m := by simp
    have := core s (s.extract 0 m) m w (by simp; omega) (.inr ⟨by omega, rfl⟩) hs hm
    unfold cleanF
    rw [← e]
    exact this
end Go.Proofs.YtdlfhldboagbeaaGreatDoor.Clean
namespace Go.Proofs.YtdlfhldboagbeaaGreatDoor.RawV
open Go.RowKit
open Kit Clean Within NumM ValM
set_option linter.unusedVariables false

def vK (k : Int) : Int := if k = 1 then 1 else if k = 2 then 2 else 3
def vN (k rk ra : Int) : Int := if k = 1 then (if pick rk 7 = 0 then pick ra 2199023255553 - 1099511627776 else pick ra 40 - 12) else if k = 2 then pick ra 2 else 0
def vS (k : Int) (t : ByteArray) : ByteArray := if k = 1 then ⟨#[]⟩ else if k = 2 then ⟨#[]⟩ else ⟨(cleanF t.data.toList 8).toArray⟩

theorem clean_of (l : List UInt8) (m : Nat) : cleanL (cleanF l m) = true := by
  unfold cleanL cleanF
  rw [List.all_eq_true]
  intro c hc
  obtain ⟨d, _, rfl⟩ := List.mem_map.1 hc
  have : (cl d).toNat = 32 + d.toNat % 95 := by have := cl_val d; omega
  simp only [Bool.and_eq_true, decide_eq_true_eq]
  omega

theorem vK_type (k : Int) : isT (vK k) = true := by
  unfold vK isT
  by_cases h1 : k = 1
  · rw [if_pos h1]; rfl
  · rw [if_neg h1]
    by_cases h2 : k = 2
    · rw [if_pos h2]; rfl
    · rw [if_neg h2]; rfl

theorem v_known (k rk ra : Int) (t : ByteArray) : knownB (vK k) (vN k rk ra) (vS k t).data.toList = true := by
  have hz : valE (vK k) (vN k rk ra) (vS k t).data.toList = 0 := by
    unfold vK vN vS
    by_cases h1 : k = 1
    · simp only [if_pos h1]
      have a := pick_bd ra 2199023255553 (by omega)
      have b := pick_bd ra 40 (by omega)
      have : okN (if pick rk 7 = 0 then pick ra 2199023255553 - 1099511627776 else pick ra 40 - 12) = true := by
        apply okN_iff.2
        by_cases g : pick rk 7 = 0
        · rw [if_pos g]; omega
        · rw [if_neg g]; omega
      unfold valE numE
      rw [if_pos rfl, if_pos this, if_pos rfl]; rfl
    · simp only [if_neg h1]
      by_cases h2 : k = 2
      · simp only [if_pos h2]
        have a := pick_bd ra 2 (by omega)
        have e : numE 2 (pick ra 2) = 0 := by unfold numE; rw [if_neg (by omega), if_pos rfl, if_pos (by omega)]
        unfold valE
        rw [if_pos e]; rfl
      · simp only [if_neg h2]
        have e : numE 3 0 = 0 := rfl
        unfold valE
        rw [if_pos e]
        show strE 3 (cleanF t.data.toList 8) = 0
        apply strE_clean
        · unfold cleanF; rw [List.length_map, List.length_take]; omega
        · exact clean_of _ _
  unfold knownB
  rw [vK_type, hz]; rfl

theorem value_any (k rk ra rb : Int) (t : ByteArray) (w : World) (h1 : (Lit.int .i64 rk).wf = true) (h2 : (Lit.int .i64 ra).wf = true) (h3 : t.size ≤ maxLen) :
    Calls Tryz.prog 109 #[.int .i64 k, .agg #[.int .i64 rk, .int .i64 ra, .int .i64 rb, .string t]] w fun e w' => e = .returned (.agg #[.int .i64 (vK k), .int .i64 (vN k rk ra), .string (vS k t)]) ∧ Below w.heap.size w w' := by
  by_cases e1 : k = 1
  · subst e1
    have hv : vK 1 = 1 ∧ vS 1 t = ⟨#[]⟩ := ⟨rfl, rfl⟩
    rw [hv.1, hv.2]
    clear hv
    obtain ⟨p, hp⟩ : ∃ p, pick rk 7 = p := ⟨_, rfl⟩
    have c1 := fun W => picked_any rk 7 W h1 (by omega) (by omega)
    rw [hp] at c1
    have C1 := Lib.hid c1
    by_cases hp0 : p = 0
    · have hn : vN 1 rk ra = pick ra 2199023255553 - 1099511627776 := by unfold vN; rw [if_pos rfl, hp, if_pos hp0]
      rw [hn]
      obtain ⟨q, hq⟩ : ∃ q, pick ra 2199023255553 = q := ⟨_, rfl⟩
      have hb := pick_bd ra 2199023255553 (by omega)
      have c2 := fun W => picked_any ra 2199023255553 W h2 (by omega) (by omega)
      rw [hq] at c2 hb ⊢
      obtain ⟨hb1, hb2⟩ := hb
      have C2 := Lib.hid c2
      subst hp0
      clear c1 c2 hp hq hn h1 h2
      go_enter Tryz.func109, Tryz.ntmps109
      go_wp2_with fail
      refine (C1.out _).mono ?_; rintro e w1 ⟨rfl, rfl⟩
      go_wp2_with fail
      refine (C2.out _).mono ?_; rintro e w1 ⟨rfl, rfl⟩
      go_wp2_with fail
      refine bodyPost_ret (v := .agg #[.int .i64 1, .int .i64 (q - 1099511627776), .string ⟨#[]⟩]) (by simp [results, Tryz.results109, go_sem]) rfl ⟨rfl, b_more (b_new _ _) _⟩
    · have hn : vN 1 rk ra = pick ra 40 - 12 := by unfold vN; rw [if_pos rfl, hp, if_neg hp0]
      rw [hn]
      obtain ⟨q, hq⟩ : ∃ q, pick ra 40 = q := ⟨_, rfl⟩
      have hb := pick_bd ra 40 (by omega)
      have c2 := fun W => picked_any ra 40 W h2 (by omega) (by omega)
      rw [hq] at c2 hb ⊢
      obtain ⟨hb1, hb2⟩ := hb
      have C2 := Lib.hid c2
      have hp1 : (p == 0) = false := beq_eq_false_iff_ne.2 hp0
      clear c1 c2 hp hq hn h1 h2 hp0
      go_enter Tryz.func109, Tryz.ntmps109
      go_wp2_with fail
      refine (C1.out _).mono ?_; rintro e w1 ⟨rfl, rfl⟩
      go_wp2_with fail
      refine (C2.out _).mono ?_; rintro e w1 ⟨rfl, rfl⟩
      go_wp2_with fail
      refine bodyPost_ret (v := .agg #[.int .i64 1, .int .i64 (q - 12), .string ⟨#[]⟩]) (by simp [results, Tryz.results109, go_sem]) rfl ⟨rfl, b_more (b_new _ _) _⟩
  · by_cases e2 : k = 2
    · subst e2
      have hv : vK 2 = 2 ∧ vS 2 t = ⟨#[]⟩ ∧ vN 2 rk ra = pick ra 2 := ⟨rfl, rfl, rfl⟩
      rw [hv.1, hv.2.1, hv.2.2]
      clear hv
      obtain ⟨q, hq⟩ : ∃ q, pick ra 2 = q := ⟨_, rfl⟩
      have c2 := fun W => picked_any ra 2 W h2 (by omega) (by omega)
      rw [hq] at c2 ⊢
      have C2 := Lib.hid c2
      clear c2 hq h1 h2 e1
      go_enter Tryz.func109, Tryz.ntmps109
      go_wp2_with fail
      refine (C2.out _).mono ?_; rintro e w1 ⟨rfl, rfl⟩
      go_wp2_with fail
      refine bodyPost_ret (v := .agg #[.int .i64 2, .int .i64 q, .string ⟨#[]⟩]) (by simp [results, Tryz.results109, go_sem]) rfl ⟨rfl, b_more (b_new _ _) _⟩
    · have hv : vK k = 3 ∧ vS k t = ⟨(cleanF t.data.toList 8).toArray⟩ ∧ vN k rk ra = 0 := by
        unfold vK vS vN; simp [e1, e2]
      rw [hv.1, hv.2.1, hv.2.2]
      have c2 : ∀ W : World, Calls Tryz.prog 125 #[.string t, .int .i64 8] W fun e w' => e = .returned (.string ⟨(cleanF t.data.toList 8).toArray⟩) ∧ Below W.heap.size W w' := fun W => clean_any t 8 W h3 (by omega)
      obtain ⟨r, hr⟩ : ∃ r, ByteArray.mk (cleanF t.data.toList 8).toArray = r := ⟨_, rfl⟩
      rw [hr] at c2 ⊢
      have C2 := Lib.hid c2
      have k1 : (k == 1) = false := beq_eq_false_iff_ne.2 e1
      have k2 : (k == 2) = false := beq_eq_false_iff_ne.2 e2
      clear c2 hr h1 h2 h3 e1 e2 hv
      go_enter Tryz.func109, Tryz.ntmps109
      go_wp2_with fail
      refine (C2.out _).mono ?_; rintro e w1 ⟨rfl, hb1⟩
      obtain ⟨d0, d1⟩ := bcell hb1
      have hz : w.heap.size + 1 < w1.heap.size := Nat.lt_of_lt_of_le (by simp) hb1.size
      go_wp2_with fail
      refine bodyPost_ret (v := .agg #[.int .i64 3, .int .i64 0, .string r]) (by simp [results, Tryz.results109, go_sem, d0]) rfl ⟨rfl, (((b_then (b_then hb1)).setCell (by simp) _).setCell (by simp) _).setCell (by simp) _⟩
end Go.Proofs.YtdlfhldboagbeaaGreatDoor.RawV
