/- Contracts of the statements' own helpers picked and within: some number of a kind, made out of any number. Contract of the statements' own helper clean: some text, made out of any string. Contract of the statements' own helper Value: some value of a type, made out of raw numbers and a string. -/
import Derived.Test.YtonlkmkfcaadlaaChecked
import Derived.WalkKit
import Derived.ProofKit
import Derived.Test.YtonlkmkfcaadlaaKit
import Derived.Lib.ConvBytes
import Derived.Lib.AtoiErrMem
import Derived.Laws.IdiomStrings
import Derived.WalkSpells
import Derived.WalkLawsBesides
import Derived.Outline
import Derived.Lib.Hide
import Derived.Deep.LoopGhost
import Derived.Test.YtonlkmkfcaadlaaBase
namespace Go.Proofs.Ytonlkmkfcaadlaa.Within
open Go.RowKit
set_option linter.unusedVariables false
theorem ret_int {k : IntKind} {a b : Int} (h : a = b) : Ending.returned (.int k a) = .returned (.int k b) := by rw [h]

/-- picked: a number below 'many', out of any number. -/
def pick (n many : Int) : Int := (if n < 0 then -(n + 1) else n) % many
theorem pick_bd (n many : Int) (h : 0 < many) : 0 ≤ pick n many ∧ pick n many < many :=
  ⟨Int.emod_nonneg _ (by omega), Int.emod_lt_of_pos _ h⟩

end Go.Proofs.Ytonlkmkfcaadlaa.Within
namespace Go.Proofs.Ytonlkmkfcaadlaa.Clean
open Go.RowKit Go.Lib
open Kit
set_option linter.unusedVariables false

def cl (c : UInt8) : UInt8 := UInt8.ofNat (32 + c.toNat % 95)
/-- What clean makes of a string. -/
def cleanF (l : List UInt8) (m : Nat) : List UInt8 := (l.take m).map cl

/-- The cells while the loop runs: the first k are turned. -/
def turned (t : ByteArray) (k j : Nat) : Value := .int .u8 (if j < k then (cl (t.data.toList.getD j 0)).toNat else (t.data.toList.getD j 0).toNat : Nat)

theorem cl_val (c : UInt8) : ((cl c).toNat : Int) = 32 + (c.toNat : Int) % 95 := by
  unfold cl
  have : (32 + c.toNat % 95) < 256 := by omega
  rw [UInt8.toNat_ofNat', Nat.mod_eq_of_lt (by simpa using this)]
  omega

structure Inv (B : Nat) (w : World) (t : ByteArray) (k : Nat) (wr : World) : Prop where
  le : k ≤ t.size
  cell : ∀ j, j < t.size → wr.cell? ⟨B, j, none⟩ = some (turned t k j)
  free : ∀ j, j < t.size → wr.frozen? ⟨B, j, none⟩ = false
  below : Below B w wr

theorem Inv.step {B : Nat} {w : World} {t : ByteArray} {k : Nat} {wr : World} (h : Inv B w t k wr) (hk : k < t.size) :
    Inv B w t (k + 1) (wr.setCell ⟨B, k, none⟩ (.int .u8 (32 + ((t.data.toList.getD k 0).toNat : Int) % 95))) where
  le := hk
  cell := fun j hj => by
    by_cases e : j = k
    · subst e
      rw [World.cell?_setCell_same _ _ _ (h.cell j hj)]
      unfold turned
      rw [if_pos (by omega), cl_val]
    · rw [World.cell?_setCell_other _ _ _ _ (by intro g; apply e; simpa using g.symm), h.cell j hj]
      unfold turned
      by_cases g : j < k
      · rw [if_pos g, if_pos (by omega)]
      · rw [if_neg g, if_neg (by omega)]
  free := fun j hj => by rw [World.frozen?_setCell]; exact h.free j hj
  below := h.below.setCell (by simp) _

end Go.Proofs.Ytonlkmkfcaadlaa.Clean
namespace Go.Proofs.Ytonlkmkfcaadlaa.RawV
open Go.RowKit
open Kit Clean Within NumM ValM
set_option linter.unusedVariables false

def vK (k : Int) : Int := if k = 1 then 1 else if k = 2 then 2 else 3
def vN (k rk ra : Int) : Int := if k = 1 then (if pick rk 7 = 0 then pick ra 2199023255553 - 1099511627776 else pick ra 40 - 12) else if k = 2 then pick ra 2 else 0
def vS (k : Int) (t : ByteArray) : ByteArray := if k = 1 then ⟨#[]⟩ else if k = 2 then ⟨#[]⟩ else ⟨(cleanF t.data.toList 8).toArray⟩

theorem clean_of (l : List UInt8) (m : Nat) : cleanL (cleanF l m) = true := by
  unfold cleanL cleanF
  rw [List.all_eq_true]
  intro c hc
  obtain ⟨d, _, rfl⟩ := List.mem_map.1 hc
  have : (cl d).toNat = 32 + d.toNat % 95 := by have := cl_val d; omega
  simp only [Bool.and_eq_true, decide_eq_true_eq]
  omega

theorem vK_type (k : Int) : isT (vK k) = true := by
  unfold vK isT
  by_cases h1 : k = 1
  · rw [if_pos h1]; rfl
  · rw [if_neg h1]
    by_cases h2 : k = 2
    · rw [if_pos h2]; rfl
    · rw [if_neg h2]; rfl

theorem v_known (k rk ra : Int) (t : ByteArray) : knownB (vK k) (vN k rk ra) (vS k t).data.toList = true := by
  have hz : valE (vK k) (vN k rk ra) (vS k t).data.toList = 0 := by
    unfold vK vN vS
    by_cases h1 : k = 1
    · simp only [if_pos h1]
      have a := pick_bd ra 2199023255553 (by omega)
      have b := pick_bd ra 40 (by omega)
      have : okN (if pick rk 7 = 0 then pick ra 2199023255553 - 1099511627776 else pick ra 40 - 12) = true := by
        apply okN_iff.2
        by_cases g : pick rk 7 = 0
        · rw [if_pos g]; omega
        · rw [if_neg g]; omega
      unfold valE numE
      rw [if_pos rfl, if_pos this, if_pos rfl]; rfl
    · simp only [if_neg h1]
      by_cases h2 : k = 2
      · simp only [if_pos h2]
        have a := pick_bd ra 2 (by omega)
        have e : numE 2 (pick ra 2) = 0 := by unfold numE; rw [if_neg (by omega), if_pos rfl, if_pos (by omega)]
        unfold valE
        rw [if_pos e]; rfl
      · simp only [if_neg h2]
        have e : numE 3 0 = 0 := rfl
        unfold valE
        rw [if_pos e]
        show strE 3 (cleanF t.data.toList 8) = 0
        apply strE_clean
        · unfold cleanF; rw [List.length_map, List.length_take]; omega
        · exact clean_of _ _
  unfold knownB
  rw [vK_type, hz]; rfl

end Go.Proofs.Ytonlkmkfcaadlaa.RawV
