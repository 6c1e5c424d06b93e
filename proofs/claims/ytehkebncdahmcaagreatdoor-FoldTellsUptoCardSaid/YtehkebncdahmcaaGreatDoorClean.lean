/- Contract of the statements' own helper clean: some text, made out of any string. -/
import Derived.Test.YtehkebncdahmcaaGreatDoorChecked
import Derived.Test.YtehkebncdahmcaaGreatDoorKit
import Derived.WalkKit
import Derived.ProofKit
import Derived.Lib.ConvBytes
import Derived.Lib.AtoiErrMem
import Derived.Laws.IdiomStrings
import Derived.WalkSpells
import Derived.WalkLawsBesides
import Derived.Outline
import Derived.Lib.Hide
import Derived.Deep.LoopGhost
namespace Go.Proofs.YtehkebncdahmcaaGreatDoor.Clean
open Go.RowKit Go.Lib
open Kit
set_option linter.unusedVariables false

def cl (c : UInt8) : UInt8 := UInt8.ofNat (32 + c.toNat % 95)
/-- What clean makes of a string. -/
def cleanF (l : List UInt8) (m : Nat) : List UInt8 := (l.take m).map cl

theorem conv (w : World) (t : ByteArray) : ∃ (W1 : World) (cap : Nat), (convert 9 113 (.string t)).run Tryz.prog w = .ok (.slice (some ⟨w.heap.size, 0, none⟩) t.size cap) W1 ∧
    (∀ j, j < t.size → W1.cell? ⟨w.heap.size, j, none⟩ = some (.int .u8 (t.data.toList.getD j 0).toNat)) ∧ (∀ j, j < t.size → W1.frozen? ⟨w.heap.size, j, none⟩ = false) ∧ W1.heap.size = w.heap.size + 1 ∧ Below w.heap.size w W1 := by
  refine ⟨_, _, Lib.run_convert_string_bytes (P := Tryz.prog) w 9 113 5 t Tryz.underlying9 Tryz.underlying113 Tryz.underlying5, fun j hj => bytesWorld_cell w _ t j hj, fun j hj => ?_, bytesWorld_size w _ t, bytesWorld_below w _ t⟩
  have hle : t.size ≤ (bytesCells w 5 t).size := by simp [bytesCells]
  simp only [World.frozen?, bytesWorld_at_new]
  simp
  omega

/-- The cells while the loop runs: the first k are turned. -/
def turned (t : ByteArray) (k j : Nat) : Value := .int .u8 (if j < k then (cl (t.data.toList.getD j 0)).toNat else (t.data.toList.getD j 0).toNat : Nat)

theorem cl_val (c : UInt8) : ((cl c).toNat : Int) = 32 + (c.toNat : Int) % 95 := by
  unfold cl
  have : (32 + c.toNat % 95) < 256 := by omega
  rw [UInt8.toNat_ofNat', Nat.mod_eq_of_lt (by simpa using this)]
  omega

structure Inv (B : Nat) (w : World) (t : ByteArray) (k : Nat) (wr : World) : Prop where
  le : k ≤ t.size
  cell : ∀ j, j < t.size → wr.cell? ⟨B, j, none⟩ = some (turned t k j)
  free : ∀ j, j < t.size → wr.frozen? ⟨B, j, none⟩ = false
  below : Below B w wr

theorem Inv.step {B : Nat} {w : World} {t : ByteArray} {k : Nat} {wr : World} (h : Inv B w t k wr) (hk : k < t.size) :
    Inv B w t (k + 1) (wr.setCell ⟨B, k, none⟩ (.int .u8 (32 + ((t.data.toList.getD k 0).toNat : Int) % 95))) where
  le := hk
  cell := fun j hj => by
    by_cases e : j = k
    · subst e
      rw [World.cell?_setCell_same _ _ _ (h.cell j hj)]
      unfold turned
      rw [if_pos (by omega), cl_val]
    · rw [World.cell?_setCell_other _ _ _ _ (by intro g; apply e; simpa using g.symm), h.cell j hj]
      unfold turned
      by_cases g : j < k
      · rw [if_pos g, if_pos (by omega)]
      · rw [if_neg g, if_neg (by omega)]
  free := fun j hj => by rw [World.frozen?_setCell]; exact h.free j hj
  below := h.below.setCell (by simp) _

theorem core (s t : ByteArray) (m : Nat) (w : World) (hs : t.size ≤ 1000) (hcase : (s.size ≤ m ∧ t = s) ∨ (m < s.size ∧ s.extract 0 m = t)) (hss : s.size ≤ 9223372036854775807) (hm : m ≤ 1000) :
    Calls Tryz.prog 48 #[.string s, .int .i64 m] w fun e w' => e = .returned (.string ⟨(t.data.toList.map cl).toArray⟩) ∧ Below w.heap.size w w' := by
  obtain ⟨W1, cap, hc, hcell, hfz, hsz, hbel⟩ := conv w t
  have h0 : Inv w.heap.size w t 0 W1 := ⟨Nat.zero_le _, fun j hj => by rw [hcell j hj]; unfold turned; rw [if_neg (by omega)], hfz, hbel⟩
  have H0 := Lib.hid h0
  clear hcell hfz hsz hbel h0
  rcases hcase with ⟨h1, rfl⟩ | ⟨h1, ht⟩
  all_goals
    go_enter Tryz.func48, Tryz.ntmps48
    go_wp2
    go_loopw [6, 7, 17] (fun _ _ i wr => ∃ k : Nat, i = .int .i64 k ∧ Inv w.heap.size w t k wr) (fun _ _ i _ => t.size - (intOf i).toNat)
    case atStart => exact ⟨0, rfl, H0.out⟩
    case round =>
      obtain ⟨k, rfl, hI⟩ := hrel
      by_cases hlt : k < t.size
      · have hS := Lib.hid (hI.step hlt)
        have hc1 := hI.cell k hlt
        have hf1 := hI.free k hlt
        have hv : turned t k k = .int .u8 ((t.data.toList.getD k 0).toNat : Nat) := by unfold turned; rw [if_neg (by omega)]
        rw [hv] at hc1
        obtain ⟨c, hcc⟩ : ∃ c : Nat, (t.data.toList.getD k 0).toNat = c := ⟨_, rfl⟩
        have hc256 : c < 256 := by rw [← hcc]; exact (t.data.toList.getD k 0).toNat_lt
        rw [hcc] at hc1 hS
        clear hv hcc hI
        go_wp2
        go_roundw
        case rel => exact ⟨k + 1, by go_num, hS.out⟩
        case measure => simp [intOf]; omega
      · have hk : k = t.size := by have := hI.le; omega
        have hback : (convert 113 9 (.slice (some ⟨w.heap.size, 0, none⟩) t.size cap)).run Tryz.prog wr = .ok (.string ⟨(t.data.toList.map cl).toArray⟩) wr := by
          have := run_convert_bytes_back (P := Tryz.prog) wr 113 9 5 ⟨w.heap.size, 0, none⟩ cap (t.data.toList.map cl) Tryz.underlying113 Tryz.underlying5 Tryz.underlying9 (fun j hj => by
            have hj' : j < t.size := by simpa using hj
            have h2 := hI.cell j hj'
            unfold turned at h2
            rw [if_pos (by omega)] at h2
            have e : (⟨w.heap.size, 0, none⟩ : Addr).add j = ⟨w.heap.size, j, none⟩ := by simp only [Addr.add]; simp; exact fun h => h.symm
            rw [e, h2]
            have h3 : j < t.data.toList.length := hj'
            simp [List.getD, List.getElem?_eq_getElem h3])
          have e2 : (t.data.toList.map cl).length = t.size := by simp
          rw [e2] at this
          exact this
        have hb := hI.below
        clear hI H0
        subst hk
        go_wp2
        go_ret
        exact ⟨rfl, hb⟩

theorem clean_any (s : ByteArray) (m : Nat) (w : World) (hs : s.size ≤ maxLen) (hm : m ≤ 1000) :
    Calls Tryz.prog 48 #[.string s, .int .i64 m] w fun e w' => e = .returned (.string ⟨(cleanF s.data.toList m).toArray⟩) ∧ Below w.heap.size w w' := by
  unfold maxLen at hs
  by_cases h : s.size ≤ m
  · have := core s s m w (by omega) (.inl ⟨h, rfl⟩) hs hm
    unfold cleanF
    rw [List.take_of_length_le h]
    exact this
  · have e : (s.extract 0 m).data.toList = s.data.toList.take m := by simp
    have := core s (s.extract 0 m) m w (by simp; omega) (.inr ⟨by omega, rfl⟩) hs hm
    unfold cleanF
    rw [← e]
    exact this
end Go.Proofs.YtehkebncdahmcaaGreatDoor.Clean
