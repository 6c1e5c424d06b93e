/- Plain mathematics: the notation of a formula (P4.3). No program is named here. -/
import GoSem.Claim
import Derived.Test.YtjjchbafobcofaaGreatDoorBase
import Derived.Test.YtjjchbafobcofaaGreatDoorShowMath
import Derived.Test.YtjjchbafobcofaaGreatDoorParseMath
import Derived.Test.YtjjchbafobcofaaGreatDoorNotTab
namespace Go.Proofs.YtjjchbafobcofaaGreatDoor.PrM
open ValM LexM ExM ShowM

def rwF (op : Int) : NotTab.Rw := NotTab.rows.getD op.toNat ([], 0, 0)
def precF (op : Int) : Int := (rwF op).2.1
def signF (op : Int) : List UInt8 := (rwF op).1
/-- An operand where a precedence is required. -/
def br (p : Int) (t : Int × List UInt8) : List UInt8 := if precF t.1 < p then 40 :: (t.2 ++ [41]) else t.2
def commas : List (List UInt8) → List UInt8
  | [] => []
  | [a] => a
  | a :: r => a ++ ([44, 32] ++ commas r)
def arg (ts : List (Int × List UInt8)) (i : Nat) : Int × List UInt8 := ts.getD i (0, [])
def leftF (op : Int) : Int := if precF op = 2 then precF op + 1 else precF op
def txtF (d : Nd) (ts : List (Int × List UInt8)) : List UInt8 :=
  if d.op = 1 then showL d.k d.n d.s.data.toList
  else if d.op = 2 then d.nm.data.toList
  else if precF d.op = 6 then signF d.op ++ (40 :: (commas (ts.map (·.2)) ++ [41]))
  else if d.op = 4 then signF d.op ++ (32 :: br 5 (arg ts 0))
  else if precF d.op = 5 then signF d.op ++ br 5 (arg ts 0)
  else br (leftF d.op) (arg ts 0) ++ (32 :: (signF d.op ++ (32 :: br (precF d.op + 1) (arg ts 1))))
mutual
def Ex.txt : Ex → List UInt8 | .mk d l => txtF d (txtL l)
def txtL : List Ex → List (Int × List UInt8) | [] => [] | x :: l => (x.d.op, Ex.txt x) :: txtL l
end
theorem txt_mk (d : Nd) (l : List Ex) : Ex.txt (.mk d l) = txtF d (txtL l) := by simp [Ex.txt]
theorem txtL_cons (x : Ex) (l : List Ex) : txtL (x :: l) = (x.d.op, Ex.txt x) :: txtL l := by simp [txtL]
theorem txtL_map (l : List Ex) : txtL l = l.map fun x => (x.d.op, Ex.txt x) := by
  induction l with
  | nil => simp [txtL]
  | cons x l ih => rw [txtL_cons, ih]; rfl
theorem txtL_at (l : List Ex) (i : Nat) (h : i < l.length) : arg (txtL l) i = (l[i].d.op, Ex.txt l[i]) := by
  unfold arg
  rw [txtL_map, List.getD_eq_getElem?_getD, List.getElem?_map, List.getElem?_eq_getElem h]; rfl

/-! ### How long it is at most -/
theorem show_len {k n : Int} {l : List UInt8} (h : knownB k n l = true) : (showL k n l).length ≤ 100 := by
  unfold knownB isT at h
  simp only [Bool.and_eq_true, Bool.or_eq_true, decide_eq_true_eq] at h
  obtain ⟨ht, hv⟩ := h
  unfold valE at hv
  by_cases hn : numE k n = 0
  · rw [if_pos hn] at hv
    unfold showL
    rcases ht with (rfl | rfl) | rfl
    · rw [if_neg (by decide), if_neg (by decide), if_neg (by decide), if_neg (by decide)]
      unfold numE at hn
      rw [if_pos rfl] at hn
      cases hb : NumM.okN n
      · rw [hb] at hn; simp at hn
      · have := NumM.okN_iff.1 hb
        have := ParseM.itoa_short n this.1 this.2
        omega
    · rw [if_pos rfl]
      cases decide (n = 1) <;> decide
    · rw [if_neg (by decide), if_pos rfl]
      unfold strE at hv
      rw [if_pos rfl] at hv
      by_cases h40 : 40 < l.length
      · rw [if_pos h40] at hv; exact absurd hv (by decide)
      · have := escL_len l
        unfold quoteL
        simp
        omega
  · rw [if_neg hn] at hv; exact absurd hv hn
theorem rwF_len (op : Int) : (signF op).length ≤ 3 := by
  unfold signF rwF
  rcases Nat.lt_or_ge op.toNat 19 with h | h
  · obtain h | h | h | h | h | h | h | h | h | h | h | h | h | h | h | h | h | h | h : op.toNat = 0 ∨ op.toNat = 1 ∨ op.toNat = 2 ∨ op.toNat = 3 ∨ op.toNat = 4 ∨ op.toNat = 5 ∨ op.toNat = 6 ∨ op.toNat = 7 ∨ op.toNat = 8 ∨ op.toNat = 9 ∨ op.toNat = 10 ∨ op.toNat = 11 ∨ op.toNat = 12 ∨ op.toNat = 13 ∨ op.toNat = 14 ∨ op.toNat = 15 ∨ op.toNat = 16 ∨ op.toNat = 17 ∨ op.toNat = 18 := by omega
    all_goals rw [h]; decide
  · rw [List.getD_eq_getElem?_getD, List.getElem?_eq_none (by show NotTab.rows.length ≤ _; exact h)]; decide
def sumL (ts : List (Int × List UInt8)) : Nat := (ts.map fun t => t.2.length).sum
theorem commas_len : ∀ ls : List (List UInt8), (commas ls).length ≤ (ls.map List.length).sum + 2 * ls.length
  | [] => by simp [commas]
  | [a] => by simp [commas]
  | a :: b :: r => by
    have := commas_len (b :: r)
    simp only [commas, List.length_append, List.map_cons, List.sum_cons, List.length_cons, List.length_nil] at this ⊢
    omega
theorem br_len (p : Int) (t : Int × List UInt8) : (br p t).length ≤ t.2.length + 2 := by
  unfold br
  split
  · simp
  · omega
theorem arg_len (ts : List (Int × List UInt8)) : (arg ts 0).2.length + (arg ts 1).2.length ≤ sumL ts := by
  unfold arg sumL
  match ts with
  | [] => simp
  | [a] => simp
  | a :: b :: r => simp; try omega
theorem sumL_le {l : List Ex} (h : ∀ x ∈ l, (Ex.txt x).length ≤ 100 * x.nodes) : sumL (txtL l) ≤ 100 * nodesL l := by
  induction l with
  | nil => simp [txtL, sumL]
  | cons x l ih =>
    have h1 := h x (by simp)
    have h2 := ih fun y hy => h y (by simp [hy])
    rw [txtL_cons, nodesL_cons]
    unfold sumL at h2 ⊢
    simp
    omega
theorem txt_len : ∀ x : Ex, x.okN → (Ex.txt x).length ≤ 100 * x.nodes := by
  refine Ex.ind fun d l ih => ?_
  intro hok
  obtain ⟨h0, hl⟩ := (okN_mk d l).1 hok
  have hs := sumL_le fun x hx => ih x hx (hl x hx)
  have hlen : l.length ≤ 3 ∧ (d.op = 1 → knownB d.k d.n d.s.data.toList = true) ∧ (d.op = 2 → d.nm.data.toList.length ≤ 10) := by
    unfold nodeE at h0
    by_cases hr : d.op < 1 ∨ 18 < d.op
    · rw [if_pos hr] at h0; exact absurd h0 (by decide)
    · rw [if_neg hr] at h0
      by_cases hg : l.length = arity d.op ∧ vOk d = true ∧ nmOk d = true
      · refine ⟨?_, fun h1 => ?_, fun h2 => ?_⟩
        · have : ∀ o : Int, arity o ≤ 3 := fun o => by unfold arity; repeat' split
                                                       all_goals omega
          rw [hg.1]; exact this _
        · have := hg.2.1
          unfold vOk at this
          rw [if_pos h1] at this
          simp only [Bool.and_eq_true] at this
          exact this.1
        · have := hg.2.2
          unfold nmOk nmB at this
          rw [if_pos h2] at this
          simp only [Bool.and_eq_true, decide_eq_true_eq] at this
          exact this.1.1.2
      · rw [if_neg hg] at h0; exact absurd h0 (by decide)
  obtain ⟨h3, hc1, hc2⟩ := hlen
  have hsg := rwF_len d.op
  have hag := arg_len (txtL l)
  have b0 := fun p => br_len p (arg (txtL l) 0)
  have b1 := fun p => br_len p (arg (txtL l) 1)
  rw [txt_mk, nodes_mk]
  unfold txtF
  by_cases o1 : d.op = 1
  · rw [if_pos o1]; have := show_len (hc1 o1); omega
  rw [if_neg o1]
  by_cases o2 : d.op = 2
  · rw [if_pos o2]; have := hc2 o2; omega
  rw [if_neg o2]
  by_cases o6 : precF d.op = 6
  · rw [if_pos o6]
    have := commas_len ((txtL l).map (·.2))
    have e1 : (((txtL l).map (·.2)).map List.length).sum = sumL (txtL l) := by unfold sumL; rw [List.map_map]; rfl
    have e2 : ((txtL l).map (·.2)).length = l.length := by rw [txtL_map]; simp
    rw [e1, e2] at this
    simp only [List.length_append, List.length_cons, List.length_nil]
    omega
  rw [if_neg o6]
  by_cases o4 : d.op = 4
  · rw [if_pos o4]
    have := b0 5
    simp only [List.length_append, List.length_cons]
    omega
  rw [if_neg o4]
  by_cases o5 : precF d.op = 5
  · rw [if_pos o5]
    have := b0 5
    simp only [List.length_append]
    omega
  rw [if_neg o5]
  have := b0 (leftF d.op)
  have := b1 (precF d.op + 1)
  simp only [List.length_append, List.length_cons]
  omega
end Go.Proofs.YtjjchbafobcofaaGreatDoor.PrM
