/- RawValue GenLeaf ShowMath ParseMath PrintMath: what these laws name of them. -/
import Derived.Test.YtdefaeieiaegaaaGreatDoorChecked
import Derived.WalkKit
import Derived.ProofKit
import Derived.Lib.ConvBytes
import Derived.Lib.AtoiErrMem
import Derived.Laws.IdiomStrings
import Derived.WalkSpells
import Derived.WalkLawsBesides
import Derived.Outline
import Derived.Lib.Hide
import Derived.Deep.LoopGhost
import Derived.Below
import Derived.Deep.Draws
import GoSem.Claim
import Derived.Lib.Bytealg
import Derived.Lib.Small
import Derived.Lib.AtoiAll
import Derived.RangeFuncBox
import Derived.Deep.RegionHeld3
import Derived.Deep.AppendLies
import Derived.Deep.RegionLaw
import Derived.OwnWalk
import Derived.Deep.RegionWith
import Derived.RegionTactic
import Derived.BigRegion
import Derived.Laws.OwnMore
import Derived.Laws.Pointers
import Derived.Test.YtdefaeieiaegaaaGreatDoorProg
import Derived.IntWalk
import Derived.ChangeAlike
import Derived.Lib.UnsafeStr
import Derived.Lib.ItoaNum
import Derived.Lib.AtoiTie
import Derived.Lib.ItoaMem
import Derived.LaidLaws
import Derived.ChangeArms
import Derived.Lib.LaidTab
import Derived.ChangeOld
import Derived.WideShapes
import Derived.Test.YtdefaeieiaegaaaGreatDoorKtp01
namespace Go.Proofs.YtdefaeieiaegaaaGreatDoor.Within
open Go.RowKit
set_option linter.unusedVariables false
theorem ret_int {k : IntKind} {a b : Int} (h : a = b) : Ending.returned (.int k a) = .returned (.int k b) := by rw [h]
end Go.Proofs.YtdefaeieiaegaaaGreatDoor.Within
namespace Go.Proofs.YtdefaeieiaegaaaGreatDoor.Clean
open Go.RowKit Go.Lib
open Kit
set_option linter.unusedVariables false
def cl (c : UInt8) : UInt8 := UInt8.ofNat (32 + c.toNat % 95)
end Go.Proofs.YtdefaeieiaegaaaGreatDoor.Clean
namespace Go.Proofs.YtdefaeieiaegaaaGreatDoor.RawV
open Go.RowKit
open Kit Clean Within NumM ValM
set_option linter.unusedVariables false
end Go.Proofs.YtdefaeieiaegaaaGreatDoor.RawV
namespace Go.Proofs.YtdefaeieiaegaaaGreatDoor.RawL
open Go.RowKit
open ValM LexM NumM ExM Kit ExL RawV Within
set_option linter.unusedVariables false
/-- A slice of raw things: each has three numbers and a text. -/
def Raws (w : World) (A : Option Addr) (n c : Nat) : Prop :=
  n ≤ c ∧ c ≤ maxLen ∧ ∀ i, i < n → ∃ (a : Addr) (k x y : Int) (t : ByteArray), A = some a ∧ w.cell? (a.add (i * 4)) = some (.int .i64 k) ∧ w.cell? ⟨(a.add (i * 4)).block, (a.add (i * 4)).off + 1, none⟩ = some (.int .i64 x) ∧ w.cell? ⟨(a.add (i * 4)).block, (a.add (i * 4)).off + 2, none⟩ = some (.int .i64 y) ∧ w.cell? ⟨(a.add (i * 4)).block, (a.add (i * 4)).off + 3, none⟩ = some (.string t) ∧
    (Lit.int .i64 k).wf = true ∧ (Lit.int .i64 x).wf = true ∧ (Lit.int .i64 y).wf = true ∧ t.size ≤ maxLen
theorem Raws.keep {w w' : World} {A : Option Addr} {n c : Nat} (h : Raws w A n c) (hk : ∀ (p : Addr) (v0 v1 v2 : Value), w.cell? p = some v0 → w.cell? ⟨p.block, p.off + 2, none⟩ = some v2 → w'.heap[p.block]? = w.heap[p.block]?) : Raws w' A n c :=
  ⟨h.1, h.2.1, fun i hi => by
    obtain ⟨a, k, x, y, t, e, c0, c1, c2, c3, r⟩ := h.2.2 i hi
    have hb := hk _ _ (.bool true) _ c0 c2
    exact ⟨a, k, x, y, t, e, (World.cell?_of_block hb).trans c0, (World.cell?_of_block (a := ⟨(a.add (i * 4)).block, (a.add (i * 4)).off + 1, none⟩) hb).trans c1, (World.cell?_of_block (a := ⟨(a.add (i * 4)).block, (a.add (i * 4)).off + 2, none⟩) hb).trans c2, (World.cell?_of_block (a := ⟨(a.add (i * 4)).block, (a.add (i * 4)).off + 3, none⟩) hb).trans c3, r⟩⟩
end Go.Proofs.YtdefaeieiaegaaaGreatDoor.RawL
namespace Go.Proofs.YtdefaeieiaegaaaGreatDoor.GenL
open Go.RowKit
open ValM LexM NumM ExM Kit ExL RawV Within RawL
set_option linter.unusedVariables false
theorem own_below {w w1 : World} {base : Nat} {e : TypeId} {size : Nat} {v : Value} {n : Nat} {xs : List Value} (h : w.ownsRow base e size v n xs) (hb : Below w.heap.size w w1) : w1.ownsRow base e size v n xs :=
  h.kept (row := none) ⟨hb.os, hb.tape, hb.output, hb.size, fun k hk _ => hb.block k hk⟩ (by cases hv : v.ownBlock <;> simp)
theorem own_form {w : World} {base : Nat} {e : TypeId} {size : Nat} {v : Value} {n : Nat} {xs : List Value} (h : w.ownsRow base e size v n xs) (hn : 0 < n) :
    ∃ g cap, v = .slice (some ⟨g, 0, none⟩) n cap ∧ base ≤ g ∧ g < w.heap.size ∧ n ≤ cap ∧ cap ≤ maxLen ∧ ∀ j, j < n * size → w.cell? ⟨g, j, none⟩ = xs[j]? := by
  rcases h.2 with ⟨_, h2⟩ | ⟨g, cap, cur, h1, h2, h3, h4, h5, _⟩
  · omega
  · subst h1
    have hl := h.lt g rfl
    exact ⟨g, cap, rfl, h2, hl.2, h4, h5, fun j hj => h.cellAt j hj⟩
structure Fd where
  nm : ByteArray
  kind : Int
  ty : Int
  d : Nd
  A : Option Addr
  n : Nat
  c : Nat
def FdAt (w : World) (p : Addr) (f : Fd) : Prop :=
  w.cell? p = some (.string f.nm) ∧ w.cell? ⟨p.block, p.off + 1, none⟩ = some (.int .i64 f.kind) ∧ w.cell? ⟨p.block, p.off + 2, none⟩ = some (.int .i64 f.ty) ∧ w.cell? ⟨p.block, p.off + 3, none⟩ = some (.int .i64 f.d.op) ∧ w.cell? ⟨p.block, p.off + 4, none⟩ = some (.int .i64 f.d.k) ∧ w.cell? ⟨p.block, p.off + 5, none⟩ = some (.int .i64 f.d.n) ∧ w.cell? ⟨p.block, p.off + 6, none⟩ = some (.string f.d.s) ∧ w.cell? ⟨p.block, p.off + 7, none⟩ = some (.string f.d.nm) ∧ w.cell? ⟨p.block, p.off + 8, none⟩ = some (.slice f.A f.n f.c)
theorem FdAt.of_block {w w' : World} {p : Addr} {f : Fd} (h : FdAt w p f) (hb : w'.heap[p.block]? = w.heap[p.block]?) : FdAt w' p f := by
  obtain ⟨h0, h1, h2, h3, h4, h5, h6, h7, h8⟩ := h
  exact ⟨(World.cell?_of_block hb).trans h0, (World.cell?_of_block (a := ⟨p.block, p.off + 1, none⟩) hb).trans h1, (World.cell?_of_block (a := ⟨p.block, p.off + 2, none⟩) hb).trans h2, (World.cell?_of_block (a := ⟨p.block, p.off + 3, none⟩) hb).trans h3, (World.cell?_of_block (a := ⟨p.block, p.off + 4, none⟩) hb).trans h4, (World.cell?_of_block (a := ⟨p.block, p.off + 5, none⟩) hb).trans h5, (World.cell?_of_block (a := ⟨p.block, p.off + 6, none⟩) hb).trans h6, (World.cell?_of_block (a := ⟨p.block, p.off + 7, none⟩) hb).trans h7, (World.cell?_of_block (a := ⟨p.block, p.off + 8, none⟩) hb).trans h8⟩
theorem FdAt.lt {w : World} {p : Addr} {f : Fd} (h : FdAt w p f) : p.block < w.heap.size := cell_lt' h.1
def Flds (w : World) (A : Option Addr) (fs : List Fd) : Prop := ∀ (i : Nat) (h : i < fs.length), ∃ a, A = some a ∧ FdAt w (a.add (i * 9)) fs[i]
theorem Flds.below {w w' : World} {A : Option Addr} {fs : List Fd} (h : Flds w A fs) (hb : Below w.heap.size w w') : Flds w' A fs := fun i hi => by
  obtain ⟨a, e, hf⟩ := h i hi
  exact ⟨a, e, hf.of_block (hb.block _ hf.lt)⟩
theorem infoStr : (Tryz.prog.info? 9).map (fun i => (i.zero, i.size, i.bytes)) = some (some (.string ⟨#[]⟩), 1, 16) := by kernel_rfl
end Go.Proofs.YtdefaeieiaegaaaGreatDoor.GenL
namespace Go.Proofs.YtdefaeieiaegaaaGreatDoor.ShowM
open ValM
/-- The bytes of a text between its double quotes. -/
def escL (l : List UInt8) : List UInt8 := l.flatMap fun c => if c = 34 ∨ c = 92 then [92, c] else [c]
def quoteL (l : List UInt8) : List UInt8 := 34 :: (escL l ++ [34])
def showL (k n : Int) (l : List UInt8) : List UInt8 :=
  if k = 2 then Lib.formatBool (decide (n = 1)) else if k = 3 then quoteL l else if k = 4 then [63] else if k = 5 then 33 :: Lib.itoa n else Lib.itoa n
theorem escL_snoc (l : List UInt8) (c : UInt8) : escL (l ++ [c]) = escL l ++ (if c = 34 ∨ c = 92 then [92, c] else [c]) := by
  unfold escL; rw [List.flatMap_append]; simp
theorem escL_len (l : List UInt8) : (escL l).length ≤ 2 * l.length := by
  induction l with
  | nil => simp [escL]
  | cons c l ih =>
    have : escL (c :: l) = (if c = 34 ∨ c = 92 then [92, c] else [c]) ++ escL l := by unfold escL; rw [List.flatMap_cons]
    rw [this, List.length_append, List.length_cons]
    split <;> simp <;> omega
theorem escL_step (s : ByteArray) (k : Nat) (h : k < s.size) : escL (s.data.toList.take (k + 1)) = escL (s.data.toList.take k) ++ (if s[k] = 34 ∨ s[k] = 92 then [92, s[k]] else [s[k]]) := by
  rw [take_snoc s k h, escL_snoc]
theorem escL_all (s : ByteArray) (k : Nat) (h : s.size ≤ k) : escL (s.data.toList.take k) = escL s.data.toList := by
  rw [List.take_of_length_le (by simpa using h)]
theorem byte_eq (c : UInt8) (n : Nat) (hn : n < 256) : c = UInt8.ofNat n ↔ c.toNat = n := by
  rw [← UInt8.toNat_inj, UInt8.toNat_ofNat', Nat.mod_eq_of_lt (by simpa using hn)]
theorem len_take (s : ByteArray) (k : Nat) (h : s.size ≤ 1000) : (Lib.byteCells (34 :: escL (s.data.toList.take k))).length ≤ 2001 := by
  rw [Lib.byteCells_length, List.length_cons]
  have := escL_len (s.data.toList.take k)
  have h2 : (s.data.toList.take k).length ≤ s.size := by rw [List.length_take, len_size]; omega
  omega
end Go.Proofs.YtdefaeieiaegaaaGreatDoor.ShowM
namespace Go.Proofs.YtdefaeieiaegaaaGreatDoor.ParseM
open ValM ShowM NumM
theorem drop_cons (s : ByteArray) (k : Nat) (h : k < s.size) : s.data.toList.drop k = s[k] :: s.data.toList.drop (k + 1) := by
  rw [List.drop_eq_getElem_cons (show k < s.data.toList.length by rw [len_size]; exact h)]; rfl
theorem itoa_short (n : Int) (h1 : -1099511627776 ≤ n) (h2 : n ≤ 1099511627776) : (Lib.itoa n).length ≤ 18 := by
  have hd : ∀ u : Nat, u ≤ 1099511627776 → (Lib.decDigits u).length ≤ 13 := fun u hu => by
    rw [Lib.decDigits_length]
    by_cases g : Lib.nDigits u ≤ 13
    · exact g
    · exfalso
      have hp : ∀ k u : Nat, Lib.nDigits u = k + 1 → 10 ^ k ≤ u ∨ k = 0 := by
        intro k
        induction k with
        | zero => intro u _; exact .inr rfl
        | succ k ih =>
          intro u hn
          left
          by_cases hu : u < 10
          · rw [Lib.nDigits_small hu] at hn; omega
          · rw [Lib.nDigits_big hu] at hn
            rcases ih (u / 10) (by omega) with g | g
            · rw [Nat.pow_succ]; omega
            · subst g; omega
      obtain ⟨k, hk⟩ : ∃ k, Lib.nDigits u = k + 1 := ⟨Lib.nDigits u - 1, by have := Lib.nDigits_pos u; omega⟩
      rcases hp k u hk with g1 | g1
      · have : 10 ^ 13 ≤ 10 ^ k := Nat.pow_le_pow_right (by decide) (by omega)
        omega
      · omega
  unfold Lib.itoa
  by_cases h : n < 0
  · rw [if_pos h, List.length_cons]; have := hd n.natAbs (by omega); omega
  · rw [if_neg h]; have := hd n.toNat (by omega); omega
end Go.Proofs.YtdefaeieiaegaaaGreatDoor.ParseM
namespace Go.Proofs.YtdefaeieiaegaaaGreatDoor.PrM
open ValM LexM ExM ShowM
def rwF (op : Int) : NotTab.Rw := NotTab.rows.getD op.toNat ([], 0, 0)
def precF (op : Int) : Int := (rwF op).2.1
def signF (op : Int) : List UInt8 := (rwF op).1
/-- An operand where a precedence is required. -/
def br (p : Int) (t : Int × List UInt8) : List UInt8 := if precF t.1 < p then 40 :: (t.2 ++ [41]) else t.2
def commas : List (List UInt8) → List UInt8
  | [] => []
  | [a] => a
  | a :: r => a ++ ([44, 32] ++ commas r)
def arg (ts : List (Int × List UInt8)) (i : Nat) : Int × List UInt8 := ts.getD i (0, [])
def leftF (op : Int) : Int := if precF op = 2 then precF op + 1 else precF op
def txtF (d : Nd) (ts : List (Int × List UInt8)) : List UInt8 :=
  if d.op = 1 then showL d.k d.n d.s.data.toList
  else if d.op = 2 then d.nm.data.toList
  else if precF d.op = 6 then signF d.op ++ (40 :: (commas (ts.map (·.2)) ++ [41]))
  else if d.op = 4 then signF d.op ++ (32 :: br 5 (arg ts 0))
  else if precF d.op = 5 then signF d.op ++ br 5 (arg ts 0)
  else br (leftF d.op) (arg ts 0) ++ (32 :: (signF d.op ++ (32 :: br (precF d.op + 1) (arg ts 1))))
mutual
def Ex.txt : Ex → List UInt8 | .mk d l => txtF d (txtL l)
def txtL : List Ex → List (Int × List UInt8) | [] => [] | x :: l => (x.d.op, Ex.txt x) :: txtL l
end
theorem txt_mk (d : Nd) (l : List Ex) : Ex.txt (.mk d l) = txtF d (txtL l) := by simp [Ex.txt]
theorem txtL_cons (x : Ex) (l : List Ex) : txtL (x :: l) = (x.d.op, Ex.txt x) :: txtL l := by simp [txtL]
theorem txtL_map (l : List Ex) : txtL l = l.map fun x => (x.d.op, Ex.txt x) := by
  induction l with
  | nil => simp [txtL]
  | cons x l ih => rw [txtL_cons, ih]; rfl
theorem txtL_at (l : List Ex) (i : Nat) (h : i < l.length) : arg (txtL l) i = (l[i].d.op, Ex.txt l[i]) := by
  unfold arg
  rw [txtL_map, List.getD_eq_getElem?_getD, List.getElem?_map, List.getElem?_eq_getElem h]; rfl
theorem show_len {k n : Int} {l : List UInt8} (h : knownB k n l = true) : (showL k n l).length ≤ 100 := by
  unfold knownB isT at h
  simp only [Bool.and_eq_true, Bool.or_eq_true, decide_eq_true_eq] at h
  obtain ⟨ht, hv⟩ := h
  unfold valE at hv
  by_cases hn : numE k n = 0
  · rw [if_pos hn] at hv
    unfold showL
    rcases ht with (rfl | rfl) | rfl
    · rw [if_neg (by decide), if_neg (by decide), if_neg (by decide), if_neg (by decide)]
      unfold numE at hn
      rw [if_pos rfl] at hn
      cases hb : NumM.okN n
      · rw [hb] at hn; simp at hn
      · have := NumM.okN_iff.1 hb
        have := ParseM.itoa_short n this.1 this.2
        omega
    · rw [if_pos rfl]
      cases decide (n = 1) <;> decide
    · rw [if_neg (by decide), if_pos rfl]
      unfold strE at hv
      rw [if_pos rfl] at hv
      by_cases h40 : 40 < l.length
      · rw [if_pos h40] at hv; exact absurd hv (by decide)
      · have := escL_len l
        unfold quoteL
        simp
        omega
  · rw [if_neg hn] at hv; exact absurd hv hn
theorem rwF_len (op : Int) : (signF op).length ≤ 3 := by
  unfold signF rwF
  rcases Nat.lt_or_ge op.toNat 19 with h | h
  · obtain h | h | h | h | h | h | h | h | h | h | h | h | h | h | h | h | h | h | h : op.toNat = 0 ∨ op.toNat = 1 ∨ op.toNat = 2 ∨ op.toNat = 3 ∨ op.toNat = 4 ∨ op.toNat = 5 ∨ op.toNat = 6 ∨ op.toNat = 7 ∨ op.toNat = 8 ∨ op.toNat = 9 ∨ op.toNat = 10 ∨ op.toNat = 11 ∨ op.toNat = 12 ∨ op.toNat = 13 ∨ op.toNat = 14 ∨ op.toNat = 15 ∨ op.toNat = 16 ∨ op.toNat = 17 ∨ op.toNat = 18 := by omega
    all_goals rw [h]; decide
  · rw [List.getD_eq_getElem?_getD, List.getElem?_eq_none (by show NotTab.rows.length ≤ _; exact h)]; decide
def sumL (ts : List (Int × List UInt8)) : Nat := (ts.map fun t => t.2.length).sum
theorem commas_len : ∀ ls : List (List UInt8), (commas ls).length ≤ (ls.map List.length).sum + 2 * ls.length
  | [] => by simp [commas]
  | [a] => by simp [commas]
  | a :: b :: r => by
    have := commas_len (b :: r)
    simp only [commas, List.length_append, List.map_cons, List.sum_cons, List.length_cons, List.length_nil] at this ⊢
    omega
theorem br_len (p : Int) (t : Int × List UInt8) : (br p t).length ≤ t.2.length + 2 := by
  unfold br
  split
  · simp
  · omega
theorem arg_len (ts : List (Int × List UInt8)) : (arg ts 0).2.length + (arg ts 1).2.length ≤ sumL ts := by
  unfold arg sumL
  match ts with
  | [] => simp
  | [a] => simp
  | a :: b :: r => simp; try omega
theorem sumL_le {l : List Ex} (h : ∀ x ∈ l, (Ex.txt x).length ≤ 100 * x.nodes) : sumL (txtL l) ≤ 100 * nodesL l := by
  induction l with
  | nil => simp [txtL, sumL]
  | cons x l ih =>
    have h1 := h x (by simp)
    have h2 := ih fun y hy => h y (by simp [hy])
    rw [txtL_cons, nodesL_cons]
    unfold sumL at h2 ⊢
    simp
    omega
theorem txt_len : ∀ x : Ex, x.okN → (Ex.txt x).length ≤ 100 * x.nodes := by
  refine Ex.ind fun d l ih => ?_
  intro hok
  obtain ⟨h0, hl⟩ := (okN_mk d l).1 hok
  have hs := sumL_le fun x hx => ih x hx (hl x hx)
  have hlen : l.length ≤ 3 ∧ (d.op = 1 → knownB d.k d.n d.s.data.toList = true) ∧ (d.op = 2 → d.nm.data.toList.length ≤ 10) := by
    unfold nodeE at h0
    by_cases hr : d.op < 1 ∨ 18 < d.op
    · rw [if_pos hr] at h0; exact absurd h0 (by decide)
    · rw [if_neg hr] at h0
      by_cases hg : l.length = arity d.op ∧ vOk d = true ∧ nmOk d = true
      · refine ⟨?_, fun h1 => ?_, fun h2 => ?_⟩
        · have : ∀ o : Int, arity o ≤ 3 := fun o => by unfold arity; repeat' split
                                                       all_goals omega
          rw [hg.1]; exact this _
        · have := hg.2.1
          unfold vOk at this
          rw [if_pos h1] at this
          simp only [Bool.and_eq_true] at this
          exact this.1
        · have := hg.2.2
          unfold nmOk nmB at this
          rw [if_pos h2] at this
          simp only [Bool.and_eq_true, decide_eq_true_eq] at this
          exact this.1.1.2
      · rw [if_neg hg] at h0; exact absurd h0 (by decide)
  obtain ⟨h3, hc1, hc2⟩ := hlen
  have hsg := rwF_len d.op
  have hag := arg_len (txtL l)
  have b0 := fun p => br_len p (arg (txtL l) 0)
  have b1 := fun p => br_len p (arg (txtL l) 1)
  rw [txt_mk, nodes_mk]
  unfold txtF
  by_cases o1 : d.op = 1
  · rw [if_pos o1]; have := show_len (hc1 o1); omega
  rw [if_neg o1]
  by_cases o2 : d.op = 2
  · rw [if_pos o2]; have := hc2 o2; omega
  rw [if_neg o2]
  by_cases o6 : precF d.op = 6
  · rw [if_pos o6]
    have := commas_len ((txtL l).map (·.2))
    have e1 : (((txtL l).map (·.2)).map List.length).sum = sumL (txtL l) := by unfold sumL; rw [List.map_map]; rfl
    have e2 : ((txtL l).map (·.2)).length = l.length := by rw [txtL_map]; simp
    rw [e1, e2] at this
    simp only [List.length_append, List.length_cons, List.length_nil]
    omega
  rw [if_neg o6]
  by_cases o4 : d.op = 4
  · rw [if_pos o4]
    have := b0 5
    simp only [List.length_append, List.length_cons]
    omega
  rw [if_neg o4]
  by_cases o5 : precF d.op = 5
  · rw [if_pos o5]
    have := b0 5
    simp only [List.length_append]
    omega
  rw [if_neg o5]
  have := b0 (leftF d.op)
  have := b1 (precF d.op + 1)
  simp only [List.length_append, List.length_cons]
  omega
end Go.Proofs.YtdefaeieiaegaaaGreatDoor.PrM
