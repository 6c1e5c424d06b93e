/- RkLaw: what these laws name of them. -/
import Derived.Deep.AppendLies
import Derived.Maps.RangeWalk
import Derived.Test.YtdefaeieiaegaaaGreatDoorChecked
import Derived.Laws.OwnMore
import Derived.Laws.CopyOwn
import Derived.Lib.Hide
import Derived.Outline
import Derived.WalkSpells
import Derived.WalkLawsBesides
import Derived.IntWalk
import Derived.OwnWalk
import Derived.WalkKit
import Derived.ProofKit
import Derived.Deep.RegionLaw
import Derived.RangeFuncRecord
import Derived.Below
import Derived.Deep.Draws
import Derived.Shelf.Strings.Builder1
import Derived.Shelf.Strings.Builder2
import Derived.Shelf.Strings.OnBuilder
import Derived.Shelf.Small.Bits
import Derived.Shelf.Small.Wraps
import Derived.Shelf.Strings.BuilderF
import Derived.Shelf.Strings.BuilderK
import Derived.Shelf.Strconv.Atoi
import Derived.Shelf.Strconv.Itoa0
import Derived.Shelf.Strconv.Itoa1
import Derived.Shelf.LaysM
import Derived.Shelf.Strconv.Itoa2
import Derived.Shelf.Strconv.Itoa3
import Derived.Shelf.Strconv.AtoiErrFast
import Derived.Shelf.Strconv.ParseIntEmpty
import Derived.Shelf.Strconv.AtoiFail
import Derived.Shelf.Strconv.Clone
import Derived.Shelf.Strconv.SyntaxError
import Derived.Shelf.LaysC
import Derived.Shelf.Strconv.ToError
import Derived.Shelf.Strconv.Lower
import Derived.Shelf.Strconv.ParseUint10
import Derived.Shelf.Strconv.ParseUint10Empty
import Derived.Shelf.Strconv.ParseUint10Any
import Derived.Shelf.Strconv.ParseInt10
import Derived.Shelf.Strconv.AtoiLong
import Derived.Shelf.Strconv.AtoiInnerAll
import Derived.Shelf.Strconv.RangeError
import Derived.Shelf.Strconv.ToErrorRange
import Derived.Shelf.Strconv.AtoiAll
import Derived.Shelf.Strconv.ErrVarAll
import Derived.Shelf.Strings.Search1
import Derived.Shelf.Strings.Search2
import Derived.Shelf.Strings.Search3
import Derived.Shelf.Strings.Cut
import Derived.Shelf.Strings.Count
import Derived.Shelf.Strings.Shaped
import Derived.Shelf.Strings.Prefix
import Derived.Shelf.Strings.Split
import Derived.Shelf.Bits.Mul64
import Derived.Shelf.Unicode.DecodeSlow
import Derived.Shelf.Slices.Turned
import Derived.Shelf.Slices.Equal
import Derived.Ground.Names2Prog
import Derived.Shelf.Slices.Clone
import Derived.Shelf.Slices.Empties2
import Derived.Ground.SlgfProg
import Derived.Shelf.SlicesE.IndexFunc
import Derived.Ground.SlgmProg
import Derived.Shelf.SortM.Plain
import Derived.Shelf.SortM.SortNone
import Derived.Test.YtdefaeieiaegaaaGreatDoorProg
import Derived.Calls
import Derived.Orders
import Derived.RegionTactic
import Derived.OrdersHeld
import Derived.RangeFuncBox
import Derived.RangeFuncWrites
import Derived.Maps.OwnIn
import Derived.StringKeys
import Derived.Laws.AppendOwnNone
import Derived.Deep.RegionHeld3
import Derived.Deep.QuietTactic
import Derived.Deep.RegionWith
import Derived.Deep.DrawnRows
import Derived.BigQuiet
import Derived.Sort.EncStr
import Derived.RangeFuncNested
import Derived.RangeFuncBound
import Derived.RangeFuncCalls
import Derived.RangeFuncLeaves
import Derived.Shelf.Abstract
import Derived.Shelf.RegionOpen
import Derived.OwnWalkIn
import Derived.TacticsInMore
import Derived.LoopNIn
import Derived.LoopIn
import Derived.ChangeOld
import Derived.LaidMore
import Derived.ChangeAlike
import GoSem.Claim
import Derived.Lib.Bytealg
import Derived.Lib.Small
import Derived.Lib.AtoiAll
import Derived.LaidLaws
import Derived.ChangeArms
import Derived.Lib.LaidTab
import Derived.WideShapes
import Derived.WalkSmall
import Derived.Shelf.SlIter.Nil
import Derived.Ground.GgzProg
import Derived.Deep.DeepCutAuto
import Derived.Deep.CutBlock
import Derived.BigRegion
import Derived.Laws.Pointers
import Derived.Lib.ConvBytes
import Derived.Lib.AtoiErrMem
import Derived.Laws.IdiomStrings
import Derived.Deep.LoopGhost
import Derived.Maps.Own
import Derived.Maps.OwnSet
import Derived.Maps.AppendAt
import Derived.Maps.Range
import Derived.Test.YtdefaeieiaegaaaGreatDoorKtp05
import Derived.Test.YtdefaeieiaegaaaGreatDoorKtp11
import Derived.Test.YtdefaeieiaegaaaGreatDoorKtp17
namespace Go.Proofs.YtdefaeieiaegaaaGreatDoor.RkV
open Go.RowKit
open ExM NmM Kit RkM RkA RkB RkC RkD RkO RkL CycO SMp
set_option linter.unusedVariables false
/-- The place of a name. -/
def plc (nm : Nat → ByteArray) (n : Nat) (s : ByteArray) : Nat := (List.range n).findIdx fun i => decide (nm i = s)
theorem plc_at {nm : Nat → ByteArray} {n : Nat} (hinj : ∀ i j, i < n → j < n → nm i = nm j → i = j) {i : Nat} (hi : i < n) : plc nm n (nm i) = i := by
  unfold plc
  rw [List.findIdx_eq (by simpa using hi)]
  refine ⟨by simp, fun j hj => ?_⟩
  simp only [List.getElem_range, decide_eq_false_iff_not]
  intro e
  have := hinj j i (by omega) hi e
  omega
theorem plc_nm {nm : Nat → ByteArray} {n : Nat} {s : ByteArray} (h : plc nm n s < n) : nm (plc nm n s) = s := by
  have := List.findIdx_getElem (xs := List.range n) (p := fun i => decide (nm i = s)) (w := by rw [List.length_range]; exact h)
  simp only [List.getElem_range] at this
  exact of_decide_eq_true this
def rkMp (nm : Nat → ByteArray) (n : Nat) (r : List Int) (L : Nat) (s : ByteArray) : Option Value := if plc nm n s < n ∧ doneB r L (plc nm n s) = true then some (.int .i64 (rk r (plc nm n s))) else none
def rdMp (nm : Nat → ByteArray) (n : Nat) (r : List Int) (L i : Nat) (s : ByteArray) : Option Value := if plc nm n s < i ∧ rk r (plc nm n s) = (L : Int) then some (.int .i64 (L : Int)) else none
theorem rkMp_zero (nm : Nat → ByteArray) (n : Nat) (r : List Int) (s : ByteArray) : none = rkMp nm n r 0 s := by
  unfold rkMp doneB
  rw [if_neg]
  rintro ⟨_, h⟩
  have := of_decide_eq_true h
  omega
theorem rdMp_zero (nm : Nat → ByteArray) (n : Nat) (r : List Int) (L : Nat) (s : ByteArray) : none = rdMp nm n r L 0 s := by
  unfold rdMp
  rw [if_neg]
  rintro ⟨h, _⟩
  omega
theorem rkMp_nm {nm : Nat → ByteArray} {n : Nat} (hinj : ∀ i j, i < n → j < n → nm i = nm j → i = j) (r : List Int) (L : Nat) {i : Nat} (hi : i < n) : rkMp nm n r L (nm i) = if doneB r L i = true then some (.int .i64 (rk r i)) else none := by
  unfold rkMp
  rw [plc_at hinj hi]
  by_cases h : doneB r L i = true
  · rw [if_pos h, if_pos ⟨hi, h⟩]
  · rw [if_neg h, if_neg (fun g => h g.2)]
theorem rkMp_some {nm : Nat → ByteArray} {n : Nat} (hinj : ∀ i j, i < n → j < n → nm i = nm j → i = j) (r : List Int) (L : Nat) {i : Nat} (hi : i < n) : (rkMp nm n r L (nm i)).isSome = doneB r L i := by
  rw [rkMp_nm hinj r L hi]
  cases doneB r L i <;> rfl
theorem rdMp_put {nm : Nat → ByteArray} {n : Nat} (hinj : ∀ i j, i < n → j < n → nm i = nm j → i = j) (r : List Int) (L : Nat) {i : Nat} (hi : i < n) (h : rk r i = (L : Int)) (t : ByteArray) : (if t = nm i then some (.int .i64 (L : Int)) else rdMp nm n r L i t) = rdMp nm n r L (i + 1) t := by
  unfold rdMp
  by_cases e : t = nm i
  · rw [if_pos e, e, plc_at hinj hi, if_pos ⟨by omega, h⟩]
  · rw [if_neg e]
    by_cases hp : plc nm n t < i ∧ rk r (plc nm n t) = (L : Int)
    · rw [if_pos hp, if_pos ⟨by omega, hp.2⟩]
    · rw [if_neg hp, if_neg]
      rintro ⟨h1, h2⟩
      by_cases h3 : plc nm n t = i
      · exact e (by rw [← h3]; exact (plc_nm (by omega)).symm)
      · exact hp ⟨by omega, h2⟩
theorem rdMp_skip (nm : Nat → ByteArray) (n : Nat) (r : List Int) (L : Nat) {i : Nat} (h : rk r i ≠ (L : Int)) (t : ByteArray) : rdMp nm n r L i t = rdMp nm n r L (i + 1) t := by
  unfold rdMp
  by_cases hp : plc nm n t < i ∧ rk r (plc nm n t) = (L : Int)
  · rw [if_pos hp, if_pos ⟨by omega, hp.2⟩]
  · rw [if_neg hp, if_neg]
    rintro ⟨h1, h2⟩
    by_cases h3 : plc nm n t = i
    · exact h (by rw [← h3]; exact h2)
    · exact hp ⟨by omega, h2⟩
/-- What the map of ranks holds while the ready ones are laid into it. -/
def mrg (nm : Nat → ByteArray) (n : Nat) (r : List Int) (L : Nat) (left : ByteArray → Bool) (s : ByteArray) : Option Value := if ((rdMp nm n r L n s).isSome && !left s) = true then rdMp nm n r L n s else rkMp nm n r L s
theorem mrg_start (nm : Nat → ByteArray) (n : Nat) (r : List Int) (L : Nat) (s : ByteArray) : rkMp nm n r L s = mrg nm n r L (fun s => (rdMp nm n r L n s).isSome) s := by
  unfold mrg
  rw [if_neg]
  show ¬ ((rdMp nm n r L n s).isSome && !(rdMp nm n r L n s).isSome) = true
  generalize (rdMp nm n r L n s).isSome = b
  cases b <;> decide
theorem mrg_step (nm : Nat → ByteArray) (n : Nat) (r : List Int) (L : Nat) (left : ByteArray → Bool) (s : ByteArray) (v : Value) (hs : rdMp nm n r L n s = some v) (t : ByteArray) : (if t = s then some v else mrg nm n r L left t) = mrg nm n r L (fun t => left t && !decide (t = s)) t := by
  unfold mrg
  by_cases e : t = s
  · subst e
    rw [if_pos rfl, if_pos (by rw [hs]; simp), hs]
  · rw [if_neg e]
    simp [e]
theorem mrg_end (nm : Nat → ByteArray) (n : Nat) (r : List Int) (L : Nat) (left : ByteArray → Bool) (hl : ∀ s, left s = false) (s : ByteArray) : mrg nm n r L left s = rkMp nm n r (L + 1) s := by
  unfold mrg
  rw [hl s]
  unfold rdMp rkMp doneB
  by_cases hp : plc nm n s < n ∧ rk r (plc nm n s) = (L : Int)
  · rw [if_pos hp]
    rw [if_pos (by rfl), if_pos ⟨hp.1, decide_eq_true (by omega)⟩, hp.2]
  · rw [if_neg hp]
    simp only [Option.isSome_none, Bool.false_and, Bool.false_eq_true, if_false]
    by_cases h : plc nm n s < n ∧ decide (0 ≤ rk r (plc nm n s) ∧ rk r (plc nm n s) < (L : Int)) = true
    · rw [if_pos h, if_pos ⟨h.1, decide_eq_true (by have := of_decide_eq_true h.2; omega)⟩]
    · rw [if_neg h, if_neg]
      rintro ⟨h1, h2⟩
      have h3 := of_decide_eq_true h2
      refine h ⟨h1, decide_eq_true ⟨h3.1, ?_⟩⟩
      have : rk r (plc nm n s) ≠ (L : Int) := fun e => hp ⟨h1, e⟩
      omega
/-- All of the first q are done. -/
def allQ (r : List Int) (L : Nat) (N : List Nat) (q : Nat) : Bool := (N.take q).all (doneB r L)
theorem allQ_zero (r : List Int) (L : Nat) (N : List Nat) : allQ r L N 0 = true := by unfold allQ; simp
theorem allQ_succ (r : List Int) (L : Nat) (N : List Nat) (q : Nat) (h : q < N.length) : allQ r L N (q + 1) = (allQ r L N q && doneB r L N[q]) := by
  unfold allQ
  rw [List.take_succ_eq_append_getElem h, List.all_append]; simp
theorem allQ_last (r : List Int) (L : Nat) (N : List Nat) : allQ r L N N.length = N.all (doneB r L) := by unfold allQ; rw [List.take_length]
end Go.Proofs.YtdefaeieiaegaaaGreatDoor.RkV
namespace Go.Proofs.YtdefaeieiaegaaaGreatDoor.RkW
open Go.RowKit Go.Maps
open ValM LexM NumM ExM NmM Kit ExL ExP ExN ExC RawV Within RawL GenL FldP FldR FldC TyM Ty NmO NmA NmI NmT NmR RkM RkA RkB RkC RkD RkO RkL CycO SMp RkV
set_option linter.unusedVariables false
theorem look_int {W : World} {m n : Nat} {M : ByteArray → Option Value} (h : SM W m n M) (s : ByteArray) (hs : s.size ≤ maxLen) :
    (Instr.lookup 146 (.map (some m)) (.string s) true).run Tryz.prog W = .ok (.tuple #[(M s).getD (.int .i64 0), .bool (M s).isSome]) W := h.look Tryz.underlying146 (by kernel_rfl) s hs
theorem put_int {W : World} {m n : Nat} {M : ByteArray → Option Value} (h : SM W m n M) (s : ByteArray) (hs : s.size ≤ maxLen) (v : Value) (hn : n < maxLen) :
    ∃ w', (Instr.mapUpdate 146 (.map (some m)) (.string s) v).run Tryz.prog W = .ok () w' ∧ SM w' m (n + 1) (fun t => if t = s then some v else M t) ∧ W.grownBy w' (some m) := h.put Tryz.underlying146 s hs v hn
theorem b_grown {B : Nat} {a w w' : World} {m : Nat} (h : Below B a w) (hg : w.grownBy w' (some m)) (hB : B ≤ w.heap.size) (hm : B ≤ m) : Below B a w' := h.grown hg hB (fun k e => by injection e with e; omega)
/-- What FieldRanks tells. -/
def RefRanks (ns : List (List Nat)) (r : List Int) (nm : Nat → ByteArray) (n : Nat) (w : World) (e : Ending) (w' : World) : Prop :=
  ((∀ i, i < n → rk r i ≠ -1) → ∃ v, e = .returned (.tuple #[v, .slice none 0 0, .int .i64 0]) ∧ w'.ownsRow w.heap.size 3 1 v n (iV r)) ∧
  (∀ i, i < n → rk r i = -1 → (∀ j, j < i → rk r j ≠ -1) → ∃ v, e = .returned (.tuple #[.slice none 0 0, v, .int .i64 10]) ∧ CycAt nm (nxtF ns r) i n v w') ∧ Below w.heap.size w w'
set_option maxRecDepth 100000 in
set_option maxHeartbeats 16000000 in
theorem refRanks_any (ns : List (List Nat)) (r : List Int) (nm : Nat → ByteArray) (n : Nat) (FA : Option Addr) (fc : Nat) (w : World) (hn1 : 1 ≤ n) (hn : n ≤ 14) (hnl : ns.length = n) (hrl : r.length = n) (hfx : Fix ns r) (hrb : ∀ i, -1 ≤ rk r i)
    (hff : Calls Tryz.prog 98 #[.slice FA n fc] w fun e w' => e = .returned (.int .i64 0) ∧ Below w.heap.size w w')
    (hfi : ∀ V, Below w.heap.size w V → ∀ i, i < n → Calls Tryz.prog 101 #[.slice FA n fc, .string (nm i)] V fun e w' => e = .returned (.int .i64 (i : Int)) ∧ Below V.heap.size V w')
    (hinj : ∀ i j, i < n → j < n → nm i = nm j → i = j) (hsz : ∀ i, i < n → (nm i).size ≤ maxLen) (hok : ∀ i, i < n → (nd ns i).length ≤ 1000 ∧ ∀ j ∈ nd ns i, j < n)
    (hfl : ∀ V, Below w.heap.size w V → ∀ i, i < n → ∃ (ad : Addr) (f : GenL.Fd), FA = some ad ∧ FdAt V (ad.add (i * 9)) f ∧ f.nm = nm i ∧ ∀ V', Below w.heap.size w V' → Calls Tryz.prog 99 #[.agg #[.string f.nm, .int .i64 f.kind, .int .i64 f.ty, .int .i64 f.d.op, .int .i64 f.d.k, .int .i64 f.d.n, .string f.d.s, .string f.d.nm, .slice f.A f.n f.c]] V' (SrcOut ((nd ns i).map nm) V')) :
    Calls Tryz.prog 58 #[.slice FA n fc] w (RefRanks ns r nm n w) := by
  obtain ⟨i0, hi, hz0, hz1, hz2⟩ := info_parts1 infoInt
  obtain ⟨s0, hsi, hsz0, hsz1, hsz2⟩ := info_parts1 NmA.infoStr
  have hmm := @run_makeMap Tryz.prog
  have hlast : ∀ i, i < n → doneB r n i = decide (rk r i ≠ -1) := fun i hi => by
    have := lev_last hfx hrb (fun i hi => by rw [hnl] at hi ⊢; exact (hok i hi).2) i (by rw [hnl]; exact hi)
    rwa [hnl] at this
  have hun : ∀ i, i < n → rk r i = -1 → ∃ j ∈ nd ns i, rk r j = -1 := fun i hi hu => un_needs hfx hrb i (by rw [hnl]; exact hi) hu
  have hit : ∀ a0, a0 < n → rk r a0 = -1 → ∀ k, itN (nxtF ns r) a0 k < n ∧ rk r (itN (nxtF ns r) a0 k) = -1 := fun a0 h1 h2 k => by
    induction k with
    | zero => exact ⟨h1, h2⟩
    | succ k ih =>
      obtain ⟨hk, e, hu⟩ := nxt_at (hun _ ih.1 ih.2)
      exact ⟨(hok _ ih.1).2 _ (by show nxtF ns r _ ∈ _; rw [← e]; exact List.getElem_mem hk), hu⟩
  have HLast := Lib.hid hlast
  have HUn := Lib.hid hun
  have HIt0 := Lib.hid hit
  clear hlast hun hit
  have HFf := Lib.hid hff
  have HFi := Lib.hid hfi
  have HInj := Lib.hid hinj
  have HSz := Lib.hid hsz
  have HOk := Lib.hid hok
  have HFl := Lib.hid hfl
  have HNl := Lib.hid hnl
  have HRl := Lib.hid hrl
  have HFx := Lib.hid hfx
  have HRb := Lib.hid hrb
  clear hff hfi hinj hsz hok hfl hnl hrl hfx hrb
  go_enter Tryz.func58, Tryz.ntmps58
  go_wp2_with fail
  refine HFf.out.mono ?_; rintro e w1 ⟨rfl, hb1⟩
  obtain ⟨m1, hm1⟩ : ∃ m, w1.heap.size = m := ⟨_, rfl⟩
  obtain ⟨W1, hW1⟩ : ∃ V, w1.alloc (.map #[] 0) = V := ⟨_, rfl⟩
  have hs1 : SM W1 m1 0 (rkMp nm n r 0) := by
    rw [← hW1, ← hm1]
    exact (SM.made w1).to fun s => rkMp_zero nm n r s
  have hbW1 : Below w.heap.size w W1 := by rw [← hW1]; exact b_more hb1 _
  have hm1w : w.heap.size ≤ m1 := by rw [← hm1]; exact hb1.size
  have HS1 := Lib.hid hs1
  have HBW1 := Lib.hid hbW1
  have HW1 := Lib.hid hW1
  have HM1 := Lib.hid hm1
  clear hs1 hbW1 hW1 hm1 hb1
  go_wp2_with fail
  rw [HW1.out, HM1.out]
  go_loopw [7] (fun lv wr => ∃ (L nn : Nat), lv = .int .i64 L ∧ L ≤ n ∧ nn ≤ 14 * L ∧ SM wr m1 nn (rkMp nm n r L) ∧ Below w.heap.size w wr) (fun lv _ => n - (intOf lv).toNat)
  case atStart => exact ⟨0, 0, rfl, by omega, by omega, HS1.out, HBW1.out⟩
  case round =>
    obtain ⟨L, nn, rfl, hL, hnn, hsm, hbw⟩ := hrel
    obtain ⟨wa, rfl⟩ : ∃ V, V = wr := ⟨_, rfl⟩
    by_cases hLn : L < n
    · obtain ⟨m2, hm2⟩ : ∃ m, wa.heap.size = m := ⟨_, rfl⟩
      obtain ⟨W2, hW2⟩ : ∃ V, wa.alloc (.map #[] 0) = V := ⟨_, rfl⟩
      have hmlt := hsm.lt
      have hs2 : SM W2 m2 0 (rdMp nm n r L 0) := by
        rw [← hW2, ← hm2]
        exact (SM.made wa).to fun s => rdMp_zero nm n r L s
      have hsA : SM W2 m1 nn (rkMp nm n r L) := by rw [← hW2]; exact hsm.alloc _
      have hbW2 : Below w.heap.size w W2 := by rw [← hW2]; exact b_more hbw _
      have hm2w : w.heap.size ≤ m2 := by rw [← hm2]; exact hbw.size
      rw [hm2] at hmlt
      have HS2 := Lib.hid hs2
      have HSA := Lib.hid hsA
      have HBW2 := Lib.hid hbW2
      have HW2 := Lib.hid hW2
      have HM2 := Lib.hid hm2
      have hLi : (L : Int) < (n : Int) := by omega
      clear hs2 hsA hbW2 hW2 hm2 hsm hbw
      go_wp2_with fail
      rw [HW2.out, HM2.out]
      go_loopw [46] (fun ii wr => ∃ (i nr : Nat), ii = .int .i64 i ∧ i ≤ n ∧ nr ≤ i ∧ SM wr m1 nn (rkMp nm n r L) ∧ SM wr m2 nr (rdMp nm n r L i) ∧ Below w.heap.size w wr) (fun ii _ => n - (intOf ii).toNat)
      case atStart => exact ⟨0, 0, rfl, by omega, by omega, HSA.out, HS2.out, HBW2.out⟩
      case round =>
        obtain ⟨i, nr, rfl, hin, hnr, hsA, hsB, hbw⟩ := hrel
        obtain ⟨wb, rfl⟩ : ∃ V, V = wr := ⟨_, rfl⟩
        by_cases hil : i < n
        · obtain ⟨ad, f, rfl, hat, hfn, hsrc⟩ := HFl.out wb hbw i hil
          obtain ⟨q0, q1, q2, q3, q4, q5, q6, q7, q8⟩ := hat
          have hii : (i : Int) < (n : Int) := by omega
          obtain ⟨W5, hW5⟩ : ∃ V, wb.alloc (.cells #[.string f.nm, .int .i64 f.kind, .int .i64 f.ty, .int .i64 f.d.op, .int .i64 f.d.k, .int .i64 f.d.n, .string f.d.s, .string f.d.nm, .slice f.A f.n f.c] 55) = V := ⟨_, rfl⟩
          obtain ⟨B9, hB9⟩ : ∃ B, wb.heap.size = B := ⟨_, rfl⟩
          have hb5 := b_new wb (.cells #[.string f.nm, .int .i64 f.kind, .int .i64 f.ty, .int .i64 f.d.op, .int .i64 f.d.k, .int .i64 f.d.n, .string f.d.s, .string f.d.nm, .slice f.A f.n f.c] 55)
          have hcell := head_cells wb f
          unfold rightHead at hcell
          rw [hW5, hB9] at hcell
          rw [hW5] at hb5
          obtain ⟨x0, x1, x2, x3, x4, x5, x6, x7, x8⟩ := hcell W5 (Below.refl _ _)
          have hbw5 := b_trans hbw hb5
          have hsA5 := hsA.below hb5
          have hsB5 := hsB.below hb5
          have hlk := look_int hsA5 f.nm (by rw [hfn]; exact HSz.out i hil)
          rw [hfn, rkMp_some HInj.out r L hil, ← hfn] at hlk
          have hsr := hsrc W5 hbw5
          have HSr := Lib.hid hsr
          have HCell := Lib.hid hcell
          have HW5 := Lib.hid hW5
          have HB9 := Lib.hid hB9
          have HFn := Lib.hid hfn
          have HSA5 := Lib.hid hsA5
          have HSB5 := Lib.hid hsB5
          have HBW5 := Lib.hid hbw5
          generalize (rkMp nm n r L f.nm).getD (.int .i64 0) = z at hlk
          clear hsA hsB hbw hb5 hcell hW5 hB9 hsrc hsr hbw5 hfn hsA5 hsB5
          cases hdn : doneB r L i with
          | true =>
            rw [hdn] at hlk
            have hne : rk r i ≠ (L : Int) := by
              have := of_decide_eq_true hdn
              omega
            have HN := Lib.hid (HSB5.out.to fun s => rdMp_skip nm n r L hne s)
            clear hdn hne
            go_upto_region 12 with fail
            rw [HW5.out, HB9.out]
            go_wp2_with fail
            go_roundw
            case rel => exact ⟨i + 1, nr, by go_num, by omega, by omega, HSA5.out, HN.out, HBW5.out⟩
            case measure => simp [intOf]; omega
          | false =>
            rw [hdn] at hlk
            go_upto_region 12 with fail
            rw [HW5.out, HB9.out]
            go_wp2_with fail
            refine HSr.out.mono ?_; rintro e w6 ⟨vs, rfl, howns, hb6⟩
            obtain ⟨As, cs, rfl, hss⟩ := SRow.of_own howns
            obtain ⟨ln, hln⟩ : ∃ ln, ((nd ns i).map nm).length = ln := ⟨_, rfl⟩
            have hln2 : (nd ns i).length = ln := by rw [← hln, List.length_map]
            have hl1000 : ln ≤ 1000 := by have := (HOk.out i hil).1; omega
            have hsc : ∀ q (hq : q < (nd ns i).length), ∃ gs, As = some ⟨gs, 0, none⟩ ∧ w6.cell? ⟨gs, q, none⟩ = some (.string (nm (nd ns i)[q])) := fun q hq => by
              obtain ⟨gs, e, h⟩ := hss q (by rw [List.length_map]; exact hq)
              exact ⟨gs, e, by rw [List.getElem_map] at h; exact h⟩
            have hsA6 := HSA5.out.below hb6
            have hsB6 := HSB5.out.below hb6
            have hlk6 : ∀ x, x < n → ∃ z, (Instr.lookup 146 (.map (some m1)) (.string (nm x)) true).run Tryz.prog w6 = .ok (.tuple #[z, .bool (doneB r L x)]) w6 := fun x hx => by
              have := look_int hsA6 (nm x) (HSz.out x hx)
              rw [rkMp_some HInj.out r L hx] at this
              exact ⟨_, this⟩
            have hstep := lev_step HFx.out HRb.out L i (by rw [HNl.out]; exact hil) hdn
            rw [← allQ_last, hln2] at hstep
            have HY6 := Lib.hid (HCell.out w6 hb6).1
            have HB6 := Lib.hid (b_trans HBW5.out hb6)
            have HSA6 := Lib.hid hsA6
            have HSB6 := Lib.hid hsB6
            have HSc := Lib.hid hsc
            have HLk6 := Lib.hid hlk6
            have HStep := Lib.hid hstep
            have HLn2 := Lib.hid hln2
            rw [hln]
            clear hln hln2 hss howns hb6 hsc HSr hsA6 hsB6 hlk6 hstep hdn hlk HSA5 HSB5 HBW5 HCell
            go_wp2_with fail
            go_loopw [13, 61] (fun al ii wr => ∃ q : Nat, ii = .int .i64 q ∧ q ≤ ln ∧ al = .bool (allQ r L (nd ns i) q) ∧ wr = w6) (fun _ ii _ => ln - (intOf ii).toNat)
            case atStart => exact ⟨0, rfl, by omega, by rw [allQ_zero], rfl⟩
            case round =>
              obtain ⟨q, rfl, hq, rfl, rfl⟩ := hrel
              by_cases hql : q < ln
              · have hqn : q < (nd ns i).length := by rw [HLn2.out]; exact hql
                obtain ⟨gs, rfl, hcs⟩ := HSc.out q hqn
                have hxn := (HOk.out i hil).2 _ (List.getElem_mem hqn)
                have hal := allQ_succ r L (nd ns i) q hqn
                generalize (nd ns i)[q] = x at hcs hxn hal
                obtain ⟨z9, hlkx⟩ := HLk6.out x hxn
                generalize nm x = sx at hcs hlkx
                have hqi : (q : Int) < (ln : Int) := by omega
                have HAl := Lib.hid hal
                clear hal hqn
                generalize allQ r L (nd ns i) q = aq at HAl ⊢
                generalize doneB r L x = dx at HAl hlkx
                cases aq
                · cases dx
                  · go_wp2_with fail
                    go_roundw
                    case rel => exact ⟨q + 1, by go_num, by omega, by rw [HAl.out]; rfl, by first | rfl | trivial⟩
                    case measure => simp [intOf]; omega
                  · go_wp2_with fail
                    go_roundw
                    case rel => exact ⟨q + 1, by go_num, by omega, by rw [HAl.out]; rfl, by first | rfl | trivial⟩
                    case measure => simp [intOf]; omega
                · cases dx
                  · go_wp2_with fail
                    go_roundw
                    case rel => exact ⟨q + 1, by go_num, by omega, by rw [HAl.out]; rfl, by first | rfl | trivial⟩
                    case measure => simp [intOf]; omega
                  · go_wp2_with fail
                    go_roundw
                    case rel => exact ⟨q + 1, by go_num, by omega, by rw [HAl.out]; rfl, by first | rfl | trivial⟩
                    case measure => simp [intOf]; omega
              · have eq : q = ln := by omega
                rw [eq, HStep.out]
                have y0 := HY6.out
                clear eq hq hql
                by_cases hrv : rk r i = (L : Int)
                · rw [decide_eq_true hrv]
                  obtain ⟨w7, hput, hs7, hg7⟩ := put_int HSB6.out f.nm (by rw [HFn.out]; exact HSz.out i hil) (.int .i64 (L : Int)) (by unfold maxLen; omega)
                  have hne12 : some m1 ≠ some m2 := fun e => by injection e; omega
                  have hsA7 := HSA6.out.kept hg7 hne12
                  have hs7' : SM w7 m2 (nr + 1) (rdMp nm n r L (i + 1)) := hs7.to fun s => by rw [HFn.out]; exact rdMp_put HInj.out r L hil hrv s
                  have hb7 := b_grown HB6.out hg7 HB6.out.size hm2w
                  have HN := Lib.hid (And.intro hsA7 (And.intro hs7' hb7))
                  clear hs7 hg7 hsA7 hs7' hb7 hrv hne12
                  go_wp2_with fail
                  go_roundw
                  case rel => exact ⟨i + 1, nr + 1, by go_num, by omega, by omega, HN.out⟩
                  case measure => simp [intOf]; omega
                · rw [decide_eq_false hrv]
                  have HN := Lib.hid (HSB6.out.to fun s => rdMp_skip nm n r L hrv s)
                  clear hrv
                  go_wp2_with fail
                  go_roundw
                  case rel => exact ⟨i + 1, nr, by go_num, by omega, by omega, HSA6.out, HN.out, HB6.out⟩
                  case measure => simp [intOf]; omega
        · have ei : i = n := by omega
          rw [ei] at hsB
          have HA := Lib.hid hsA
          have HBb := Lib.hid hbw
          have hsB' := hsB
          have HSBn := Lib.hid hsB'
          clear hsA hbw ei hsB'
          go_wp2_with (at_range; refine wpList_range_sm _ rfl _ _ rfl 3 Tryz.underlying146 m2 nr (rdMp nm n r L n) rfl HSBn.out ?_; intro w0 cnt hcnt hrg0 hg0 hsz0)
          obtain ⟨r0, hr0⟩ : ∃ r0, wb.heap.size = r0 := ⟨_, rfl⟩
          rw [hr0] at hrg0 ⊢
          have hm1r : m1 < r0 := by rw [← hr0]; exact HA.out.lt
          have hm2r : m2 < r0 := by rw [← hr0]; exact HSBn.out.lt
          have hwr : w.heap.size ≤ r0 := by rw [← hr0]; exact HBb.out.size
          have hsm0 := (HA.out.kept hg0 (by simp)).to fun s => mrg_start nm n r L s
          have hb0 : Below w.heap.size w w0 := HBb.out.grown hg0 HBb.out.size (fun k e => by cases e)
          have HS0 := Lib.hid (And.intro hrg0 (And.intro hsm0 hb0))
          clear hrg0 hg0 hsz0 hsm0 hb0 hsB hr0
          go_frame
          go_loopw [18] (fun _ wr => ∃ (left : ByteArray → Bool) (cnt nn' : Nat), SR wr m2 r0 nr (rdMp nm n r L n) left cnt ∧ SM wr m1 nn' (mrg nm n r L left) ∧ (∀ s, left s = true → (rdMp nm n r L n s).isSome = true) ∧ nn' + cnt ≤ nn + nr ∧ Below w.heap.size w wr) (fun _ wr => wr.rangeLeft m2 r0)
          case atStart => exact ⟨_, cnt, nn, HS0.out.1, HS0.out.2.1, fun s h => h, by omega, HS0.out.2.2⟩
          case round =>
            obtain ⟨left, cnt, nn', hrg, hsm, hsub, hnc, hbw⟩ := hrel
            have HRg := Lib.hid hrg
            have HSub := Lib.hid hsub
            have HSm := Lib.hid hsm
            have HBr := Lib.hid hbw
            clear hrg hsub hsm hbw
            go_wp2_with (at_next; refine wpList_next_sm _ rfl _ rfl m2 r0 nr (rdMp nm n r L n) left cnt rfl HRg.out HSub.out ?_ ?_)
            · intro hc0 hl0
              have HN := Lib.hid (HSm.out.to fun s => mrg_end nm n r L left hl0 s)
              clear hl0
              go_wp2_with fail
              go_roundw
              case rel => exact ⟨L + 1, nn', by go_num, by omega, by omega, HN.out, HBr.out⟩
              case measure => simp [intOf]; omega
            · intro s v w1' cnt1 hss hls hM hrg1 hlt hg1 hs1 hen
              have hsm1 := HSm.out.kept hg1 (fun e => by injection e; omega)
              obtain ⟨w2, hput, hs2, hg2⟩ := put_int hsm1 s hss v (by unfold maxLen; omega)
              have hrg2 := hrg1.kept hg2 (fun e => by injection e; omega) (fun e => by injection e; omega)
              have hs2' := hs2.to fun t => mrg_step nm n r L left s v hM t
              have hb2 := b_grown (b_grown HBr.out hg1 HBr.out.size hwr) hg2 (by rw [hs1]; exact HBr.out.size) hm1w
              have hsub2 : ∀ t, (left t && !decide (t = s)) = true → (rdMp nm n r L n t).isSome = true := fun t h => HSub.out t (by simp at h; exact h.1)
              have hle := HRg.out.left_eq
              have hle2 := hrg2.left_eq
              have HN := Lib.hid (And.intro hrg2 (And.intro hs2' (And.intro hsub2 hb2)))
              have HLe := Lib.hid (And.intro hle hle2)
              clear hsm1 hs2 hg2 hrg2 hs2' hb2 hsub2 hrg1 hg1 hs1 hM hls hle hle2
              go_wp2_with fail
              go_roundw
              case rel => exact ⟨_, cnt1, nn' + 1, HN.out.1, HN.out.2.1, HN.out.2.2.1, by omega, HN.out.2.2.2⟩
              case measure => rw [HLe.out.1, HLe.out.2]; exact hlt
    · have eL : L = n := by omega
      rw [eL] at hsm ⊢
      have HSm := Lib.hid hsm
      have HBa := Lib.hid hbw
      have hm1a : m1 < wa.heap.size := hsm.lt
      clear hsm hbw eL hL hLn
      go_wp2_with fail
      go_loopw [20, 94] (fun out ii wr => ∃ (i : Nat) (A : Option Addr) (c : Nat), ii = .int .i64 i ∧ i ≤ n ∧ out = .slice A i c ∧ wr.ownsRow wa.heap.size 3 1 (.slice A i c) i (iV (r.take i)) ∧ (∀ j, j < i → rk r j ≠ -1) ∧ Below wa.heap.size wa wr) (fun _ ii _ => n - (intOf ii).toNat)
      case atStart => exact ⟨0, none, 0, rfl, by omega, rfl, World.ownsRow_nil _ _ _ _, fun j hj => absurd hj (by omega), Below.refl _ _⟩
      case round =>
        obtain ⟨i, A, c, rfl, hin, rfl, hown, hall, hbr⟩ := hrel
        obtain ⟨wb, rfl⟩ : ∃ V, V = wr := ⟨_, rfl⟩
        by_cases hil : i < n
        · obtain ⟨ad, f, rfl, hat, hfn, hsrc⟩ := HFl.out wb (b_trans HBa.out hbr) i hil
          obtain ⟨q0, q1, q2, q3, q4, q5, q6, q7, q8⟩ := hat
          have hii : (i : Int) < (n : Int) := by omega
          obtain ⟨W5, hW5⟩ : ∃ V, wb.alloc (.cells #[.string f.nm, .int .i64 f.kind, .int .i64 f.ty, .int .i64 f.d.op, .int .i64 f.d.k, .int .i64 f.d.n, .string f.d.s, .string f.d.nm, .slice f.A f.n f.c] 55) = V := ⟨_, rfl⟩
          obtain ⟨B9, hB9⟩ : ∃ B, wb.heap.size = B := ⟨_, rfl⟩
          have hb5 := b_new wb (.cells #[.string f.nm, .int .i64 f.kind, .int .i64 f.ty, .int .i64 f.d.op, .int .i64 f.d.k, .int .i64 f.d.n, .string f.d.s, .string f.d.nm, .slice f.A f.n f.c] 55)
          have hcell := head_cells wb f
          unfold rightHead at hcell
          rw [hW5, hB9] at hcell
          rw [hW5] at hb5
          obtain ⟨x0, _⟩ := hcell W5 (Below.refl _ _)
          have hbr5 := b_trans hbr hb5
          have hown5 := GenL.own_below hown hb5
          have hsm5 := HSm.out.below hbr5
          have hlk := look_int hsm5 f.nm (by rw [hfn]; exact HSz.out i hil)
          rw [hfn, rkMp_nm HInj.out r n hil, HLast.out i hil, ← hfn] at hlk
          have HW5 := Lib.hid hW5
          have HB9 := Lib.hid hB9
          have HFn := Lib.hid hfn
          have HBr5 := Lib.hid hbr5
          have HSm5 := Lib.hid hsm5
          have HAll := Lib.hid hall
          clear hW5 hB9 hb5 hbr hbr5 hsm5 hcell hsrc hall hown hfn
          by_cases hrv : rk r i = -1
          · rw [decide_eq_false (fun h => h hrv)] at hlk
            have hlk2 : (Instr.lookup 146 (.map (some m1)) (.string f.nm) true).run Tryz.prog W5 = .ok (.tuple #[.int .i64 0, .bool false]) W5 := hlk
            have HIt := Lib.hid (HIt0.out i hil hrv)
            have HHas := Lib.hid (fun k => path_has (nm := nm) (f := nxtF ns r) (a := i) (k := k) (fun q => (HIt0.out i hil hrv q).1) HInj.out)
            have HRv := Lib.hid hrv
            clear hlk hrv hown5
            go_upto_region 32 with fail
            rw [HW5.out, HB9.out]
            go_wp2_with fail
            go_loopw [25, 26] (fun path s wr => ∃ (k : Nat) (A : Option Addr) (c : Nat), s = .string (nm (itN (nxtF ns r) i k)) ∧ path = .slice A k c ∧ InjK (nxtF ns r) i k ∧ wr.ownsRow W5.heap.size 9 1 (.slice A k c) k (strV (pathF nm (nxtF ns r) i k)) ∧ Below W5.heap.size W5 wr) (fun path _ _ => n - (match path with | .slice _ m _ => m | _ => 0))
            case atStart => exact ⟨0, none, 0, by rw [HFn.out]; rfl, rfl, fun i i' hi => absurd hi (by omega), World.ownsRow_nil _ _ _ _, Below.refl _ _⟩
            case round =>
              obtain ⟨k, A, c, rfl, rfl, hik, hown, hb⟩ := hrel
              obtain ⟨wd, rfl⟩ : ∃ V, V = wr := ⟨_, rfl⟩
              have hkn : k ≤ n := inj_le hik (fun q => (HIt.out q).1)
              have hown' : wd.ownsRow W5.heap.size 9 1 (.slice A k c) (pathF nm (nxtF ns r) i k).length (strV (pathF nm (nxtF ns r) i k)) := by rw [path_len]; exact hown
              obtain ⟨A', c', hp, hsr⟩ := SRow.of_own hown'
              rw [path_len] at hp
              injection hp with hp1 hp2 hp3
              subst hp1 hp3
              clear hp2
              have hcon := holds_any (pathF nm (nxtF ns r) i k) (nm (itN (nxtF ns r) i k)) A c wd (by rw [path_len]; omega) hsr
              rw [path_len] at hcon
              have hh := HHas.out k
              have hnx : itN (nxtF ns r) i (k + 1) = nxtF ns r (itN (nxtF ns r) i k) := rfl
              obtain ⟨han, hau⟩ := HIt.out k
              have hbw : Below w.heap.size w wd := b_trans HBa.out (b_trans HBr5.out hb)
              have hps := path_succ nm (nxtF ns r) i k
              cases hB : hasB (pathF nm (nxtF ns r) i k) (nm (itN (nxtF ns r) i k)) with
              | false =>
                rw [hB] at hcon
                have hij := inj_step hik (fun q hq e => by have := hh.2 ⟨q, hq, e⟩; rw [hB] at this; cases this)
                have hkn1 : k + 1 ≤ n := inj_le hij (fun q => (HIt.out q).1)
                have hnxt := nxt_at (HUn.out _ han hau)
                generalize itN (nxtF ns r) i k = a at *
                obtain ⟨him, hie0, hiu⟩ := hnxt
                have hie : ∀ h : (nd ns a).findIdx (unB r) < (nd ns a).length, (nd ns a)[(nd ns a).findIdx (unB r)] = nxtF ns r a := fun _ => hie0
                clear hie0
                have hmin : ∀ q, q < (nd ns a).findIdx (unB r) → ∀ hq : q < (nd ns a).length, rk r (nd ns a)[q] ≠ -1 := fun q hq hql e => by
                  have h1 := List.not_of_lt_findIdx hq
                  unfold unB at h1
                  simp at h1
                  exact h1 e
                generalize (nd ns a).findIdx (unB r) = m at him hie hmin
                have hgr : ∀ (o : Obj) (w6 : World), (wd.alloc o).grownBy w6 (Value.slice A k c).ownBlock → Below W5.heap.size W5 w6 := fun o w6 hg =>
                  (b_trans hb (b_new wd o)).grown hg (b_trans hb (b_new wd o)).size (fun g e => (hown.lt g e).1)
                have hownA := fun o : Obj => hown.alloc o
                have hszw := hb.size
                have hown9 : ∀ gg cap w6, w6.ownsRow W5.heap.size 9 1 (.slice (some ⟨gg, 0, none⟩) (k + 1) cap) (k + 1) (strV (pathF nm (nxtF ns r) i k) ++ [.string (nm a)]) → ∀ w7, Below w6.heap.size w6 w7 → w7.ownsRow W5.heap.size 9 1 (.slice (some ⟨gg, 0, none⟩) (k + 1) cap) (k + 1) (strV (pathF nm (nxtF ns r) i (k + 1))) := fun gg cap w6 h w7 hV => by
                  rw [hps, strV_append]
                  exact GenL.own_below h hV
                have hki : (0 : Int) ≤ (k : Int) := by omega
                have HCon := Lib.hid hcon
                have HGr := Lib.hid hgr
                have HOwnA := Lib.hid hownA
                have HOwn9 := Lib.hid hown9
                have HIj := Lib.hid hij
                have HNx := Lib.hid hnx
                have HMin := Lib.hid hmin
                have HIe := Lib.hid hie
                have HIm := Lib.hid him
                have HHan := Lib.hid han
                clear hcon hgr hownA hown9 hij hnx hmin hie him hiu hh hps hB hsr hown' hown hik hb hbw hau
                generalize pathF nm (nxtF ns r) i k = pth at HOwnA HOwn9
                go_wp2_with (first
                  | (go_at_call 100; refine HCon.out.mono ?_; rintro e w5 ⟨rfl, rfl⟩)
                  | (at_builtin; refine wpList_append_lies _ rfl _ _ 38 rfl W5.heap.size 9 s0 (.string ⟨#[]⟩) 1 16 Tryz.underlying38 hsi hsz0 hsz1 hsz2 rfl (by decide) (.slice A k c) k (strV pth) rfl (HOwnA.out _) ⟨wd.heap.size, 0, none⟩ 1 1 [.string (nm a)] rfl rfl (World.news_of_block (cs := #[.string (nm a)]) (t := 9) (fr := (0, 0)) (World.alloc_heap_new wd _)) (by simp [Value.oneCell']) (by decide) (by unfold maxLen; omega) (by omega) (by simp; omega) (wd.heap.size + 1) (by simp) ?_))
                intro gg cap w6 hown6 hgrow6 _ _
                have hb6 := HGr.out _ _ hgrow6
                have hbw6 : Below w.heap.size w w6 := b_trans HBa.out (b_trans HBr5.out hb6)
                have hfa := HFi.out w6 hbw6 a HHan.out
                have HFa := Lib.hid hfa
                have HB6 := Lib.hid hb6
                have HBw6 := Lib.hid hbw6
                have HOwn6 := Lib.hid hown6
                clear hfa hb6 hbw6 hown6 hgrow6
                go_wp2_with (go_at_call 101; refine HFa.out.mono ?_; rintro e w7 ⟨rfl, hb7⟩; have HB7 := Lib.hid hb7; clear hb7; obtain ⟨ad2, f2, e2, hat2, hfn2, hsrc2⟩ := HFl.out w7 (b_trans HBw6.out HB7.out) a HHan.out; injection e2 with e2; subst e2; obtain ⟨p0, p1, p2, p3, p4, p5, p6, p7, p8⟩ := hat2; have hai : (a : Int) < (n : Int) := (by have := HHan.out; omega); have HSr2 := Lib.hid (hsrc2 w7 (b_trans HBw6.out HB7.out)); clear hsrc2 hfn2)
                refine HSr2.out.mono ?_; rintro e w8 ⟨vs, rfl, howns, hb8⟩
                obtain ⟨As, cs, rfl, hss⟩ := SRow.of_own howns
                obtain ⟨ln, hln⟩ : ∃ ln, ((nd ns a).map nm).length = ln := ⟨_, rfl⟩
                have hln2 : (nd ns a).length = ln := by rw [← hln, List.length_map]
                have hl1000 : ln ≤ 1000 := by have := (HOk.out a HHan.out).1; omega
                have hsc : ∀ q (hq : q < (nd ns a).length), ∃ gs, As = some ⟨gs, 0, none⟩ ∧ w8.cell? ⟨gs, q, none⟩ = some (.string (nm (nd ns a)[q])) := fun q hq => by
                  obtain ⟨gs, e, h⟩ := hss q (by rw [List.length_map]; exact hq)
                  exact ⟨gs, e, by rw [List.getElem_map] at h; exact h⟩
                have hb68 : Below w6.heap.size w6 w8 := b_trans HB7.out hb8
                have hbW58 : Below W5.heap.size W5 w8 := b_trans HB6.out hb68
                have hsm8 := HSm5.out.below hbW58
                have hlk8 : ∀ x, x < n → ∃ z, (Instr.lookup 146 (.map (some m1)) (.string (nm x)) true).run Tryz.prog w8 = .ok (.tuple #[z, .bool (decide (rk r x ≠ -1))]) w8 := fun x hx => by
                  have := look_int hsm8 (nm x) (HSz.out x hx)
                  rw [rkMp_some HInj.out r n hx, HLast.out x hx] at this
                  exact ⟨_, this⟩
                have hown8 := HOwn9.out _ _ _ HOwn6.out w8 hb68
                have hml : m < ln := by have := HIm.out; omega
                have HLn2 := Lib.hid hln2
                have HSc := Lib.hid hsc
                have HLk8 := Lib.hid hlk8
                have HB8 := Lib.hid hbW58
                have HOwn8 := Lib.hid hown8
                rw [hln]
                clear hln hln2 hss howns hb8 hsc hb68 hbW58 hsm8 hlk8 hown8 HOwn6 HOwn9 HOwnA HGr HCon HSr2 HFa p0 p1 p2 p3 p4 p5 p6 p7 p8
                go_wp2_with fail
                go_loopw [26, 128] (fun s ii wr => ∃ q : Nat, ii = .int .i64 q ∧ q ≤ m ∧ s = .string (nm a) ∧ wr = w8) (fun _ ii _ => ln - (intOf ii).toNat)
                case atStart => exact ⟨0, rfl, by omega, rfl, rfl⟩
                case round =>
                  obtain ⟨q, rfl, hq, rfl, rfl⟩ := hrel
                  have hqn : q < (nd ns a).length := by rw [HLn2.out]; omega
                  obtain ⟨gs, rfl, hcs⟩ := HSc.out q hqn
                  have hxn := (HOk.out a HHan.out).2 _ (List.getElem_mem hqn)
                  have hqi : (q : Int) < (ln : Int) := by omega
                  obtain ⟨z9, hlkx⟩ := HLk8.out _ hxn
                  by_cases hqm : q = m
                  · have hx : (nd ns a)[q] = nxtF ns r a := by
                      have := HIe.out HIm.out
                      simp only [hqm]; exact this
                    have hrx : rk r (nxtF ns r a) = -1 := by
                      have := (HIt.out (k + 1)).2
                      rwa [HNx.out] at this
                    rw [hx] at hcs hlkx
                    rw [decide_eq_false (fun h => h hrx)] at hlkx
                    rw [← HNx.out] at hcs hlkx
                    clear hx hrx hxn hqm hqn
                    go_wp2_with fail
                    go_roundw
                    case rel => exact ⟨k + 1, some ⟨gg, 0, none⟩, cap, rfl, by go_num, HIj.out, HOwn8.out, HB8.out⟩
                    case measure => simp; omega
                  · have hrx := HMin.out q (by omega) hqn
                    rw [decide_eq_true hrx] at hlkx
                    generalize (nd ns a)[q] = x at hcs hlkx
                    generalize nm x = sx at hcs hlkx
                    clear hrx hxn hqn
                    go_wp2_with fail
                    go_roundw
                    case rel => exact ⟨q + 1, by go_num, by omega, rfl, by first | rfl | trivial⟩
                    case measure => simp [intOf]; omega
              | true =>
                rw [hB] at hcon
                obtain ⟨j, hjk, hje⟩ := hh.1 hB
                obtain ⟨g, cap, hv, _, _, hkc, _, _⟩ := GenL.own_form hown (by omega)
                injection hv with hv1 hv2 hv3
                subst hv1 hv3
                have hcell : ∀ q, q < k → wd.cell? ⟨g, q, none⟩ = some (.string (nm (itN (nxtF ns r) i q))) := fun q hq => by
                  obtain ⟨g', e', hc⟩ := hsr q (by rw [path_len]; exact hq)
                  injection e' with e'; injection e' with e' _ _
                  subst e'
                  rw [hc, path_at]
                have hcyc : CycAt nm (nxtF ns r) i n (.slice (some ⟨g, j, none⟩) (k - j) (c - j)) wd := ⟨k, j, g, c - j, rfl, hjk, hkn, hje.symm, hik, fun q hq => hcell (j + q) (by omega)⟩
                have hne : ∀ q, q < j → nm (itN (nxtF ns r) i q) ≠ nm (itN (nxtF ns r) i k) := fun q hq e2 => by
                  have h3 := HInj.out _ _ (HIt.out q).1 (HIt.out k).1 e2
                  have := hik q j (by omega) hjk (h3.trans hje.symm)
                  omega
                have heq : nm (itN (nxtF ns r) i j) = nm (itN (nxtF ns r) i k) := by rw [hje]
                have hfin : RefRanks ns r nm n w (.returned (.tuple #[.slice none 0 0, .slice (some ⟨g, j, none⟩) (k - j) (c - j), .int .i64 10])) wd := ⟨fun h => absurd HRv.out (h i hil), fun i' hi' hu' hf' => by
                  have e : i' = i := by
                    rcases Nat.lt_trichotomy i' i with h | h | h
                    · exact absurd hu' (HAll.out i' h)
                    · exact h
                    · exact absurd HRv.out (hf' i h)
                  subst e
                  exact ⟨_, rfl, hcyc⟩, hbw⟩
                have HCon := Lib.hid hcon
                have HCell := Lib.hid hcell
                have HNe := Lib.hid hne
                have HEq := Lib.hid heq
                have HFin := Lib.hid hfin
                clear hcon hcell hcyc hne heq hfin hje hsr hown' hown hik hb hbw hh hps hnx han hau hB hv2
                generalize nm (itN (nxtF ns r) i k) = sa at HCon HNe HEq ⊢
                go_wp2_with (go_at_call 100; refine HCon.out.mono ?_; rintro e w5 ⟨rfl, rfl⟩)
                go_loopw [25] (fun path wr => ∃ q l9 c9 : Nat, path = .slice (some ⟨g, q, none⟩) l9 c9 ∧ q ≤ j ∧ l9 = k - q ∧ c9 = c - q ∧ wr = wd) (fun path _ => match path with | .slice _ m _ => m | _ => 0)
                case atStart => exact ⟨0, k, c, rfl, by omega, by omega, by omega, rfl⟩
                case round =>
                  obtain ⟨q, l9, c9, rfl, hqj, hl9, hc9, rfl⟩ := hrel
                  have hcq := HCell.out q (by omega)
                  have h1 : (0 : Int) < (l9 : Int) := by omega
                  by_cases hq : q = j
                  · have HF := Lib.hid (show RefRanks ns r nm n w (.returned (.tuple #[.slice none 0 0, .slice (some ⟨g, q, none⟩) l9 c9, .int .i64 10])) wr by rw [hl9, hc9, hq]; exact HFin.out)
                    rw [hq, HEq.out, ← hq] at hcq
                    have t1 : (sa.toList != sa.toList) = false := by simp
                    clear hq hl9 hc9
                    go_wp2_with fail
                    exact bodyPost_ret (v := .tuple #[.slice none 0 0, .slice (some ⟨g, q, none⟩) l9 c9, .int .i64 10]) (by simp [results, Tryz.results58, go_sem]) rfl HF.out
                  · have hn2 := HNe.out q (by omega)
                    generalize nm (itN (nxtF ns r) i q) = sq at hcq hn2
                    have t1 : (sq.toList == sa.toList) = false := eq_f hn2
                    have t2 : (sq.toList != sa.toList) = true := by simp [bne, t1]
                    have h2 : (1 : Int) ≤ (l9 : Int) := by omega
                    have h3 : (l9 : Int) ≤ (c9 : Int) := by omega
                    have h4 : ¬ c9 = 1 := by omega
                    have h5 : 1 ≤ l9 := by omega
                    have HL := Lib.hid (And.intro hl9 hc9)
                    clear hn2 hl9 hc9
                    go_wp2_with fail
                    go_roundw
                    case rel => exact ⟨q + 1, l9 - 1, c9 - 1, by go_num, by omega, by have := HL.out.1; omega, by have := HL.out.2; omega, by first | rfl | trivial⟩
                    case measure => simp; omega
          · rw [decide_eq_true (show rk r i ≠ -1 from hrv)] at hlk
            have hlk2 : (Instr.lookup 146 (.map (some m1)) (.string f.nm) true).run Tryz.prog W5 = .ok (.tuple #[.int .i64 (rk r i), .bool true]) W5 := hlk
            have hnext : ∀ j, j < i + 1 → rk r j ≠ -1 := fun j hj => by
              by_cases h : j = i
              · subst h; exact hrv
              · exact HAll.out j (by omega)
            have htk : iV (r.take (i + 1)) = iV (r.take i) ++ [.int .i64 (rk r i)] := by
              rw [List.take_succ_eq_append_getElem (by rw [HRl.out]; exact hil), rk_at r i (by rw [HRl.out]; exact hil)]
              unfold iV; rw [List.map_append]; rfl
            have hgr : ∀ gg cap w7, w7.ownsRow wa.heap.size 3 1 (.slice (some ⟨gg, 0, none⟩) (i + 1) cap) (i + 1) (iV (r.take i) ++ [.int .i64 (rk r i)]) → (W5.alloc (.cells #[.int .i64 (rk r i)] 3)).grownBy w7 (Value.slice A i c).ownBlock → w7.ownsRow wa.heap.size 3 1 (.slice (some ⟨gg, 0, none⟩) (i + 1) cap) (i + 1) (iV (r.take (i + 1))) ∧ Below wa.heap.size wa w7 := fun gg cap w7 h1 h2 => by
              have hbb := b_trans HBr5.out (b_new W5 (.cells #[.int .i64 (rk r i)] 3))
              exact ⟨by rw [htk]; exact h1, hbb.grown h2 hbb.size (fun k e => (hown5.lt k e).1)⟩
            have hownA := fun o : Obj => hown5.alloc o
            have hszw := HBr5.out.size
            have HGr := Lib.hid hgr
            have HOwnA := Lib.hid hownA
            have HNext := Lib.hid hnext
            clear hlk hrv hnext htk hgr hownA hown5
            generalize rk r i = rv at hlk2 HGr
            go_upto_region 32 with fail
            rw [HW5.out, HB9.out]
            go_wp2_with (at_builtin; refine wpList_append_lies _ rfl _ _ 99 rfl wa.heap.size 3 i0 (.int .i64 0) 1 8 Tryz.underlying99 hi hz0 hz1 hz2 rfl (by decide) (.slice A i c) i (iV (r.take i)) rfl (HOwnA.out _) ⟨W5.heap.size, 0, none⟩ 1 1 [.int .i64 rv] rfl rfl (World.news_of_block (cs := #[.int .i64 rv]) (t := 3) (fr := (0, 0)) (World.alloc_heap_new W5 _)) (by simp [Value.oneCell']) (by decide) (by unfold maxLen; omega) (by omega) (by simp; omega) (W5.heap.size + 1) (by simp) ?_)
            intro gg cap w7 hown7 hgrow7 _ _
            have HN := Lib.hid (HGr.out gg cap w7 hown7 hgrow7)
            clear hown7 hgrow7
            go_wp2_with fail
            go_roundw
            case rel => exact ⟨i + 1, some ⟨gg, 0, none⟩, cap, by go_num, by omega, rfl, HN.out.1, HNext.out, HN.out.2⟩
            case measure => simp [intOf]; omega
        · have ei : i = n := by omega
          rw [ei] at hown hall ⊢
          rw [List.take_of_length_le (by rw [HRl.out]; exact Nat.le_refl _)] at hown
          have hfin : RefRanks ns r nm n w (.returned (.tuple #[.slice A n c, .slice none 0 0, .int .i64 0])) wb := ⟨fun _ => ⟨_, rfl, own_base hown HBa.out.size⟩, fun k hk hu _ => absurd hu (hall k hk), b_trans HBa.out hbr⟩
          have HFin := Lib.hid hfin
          clear hfin hown hall hbr ei hil
          go_wp2_with fail
          exact bodyPost_ret (v := .tuple #[.slice A n c, .slice none 0 0, .int .i64 0]) (by simp [results, Tryz.results58, go_sem]) rfl HFin.out
end Go.Proofs.YtdefaeieiaegaaaGreatDoor.RkW
namespace Go.Proofs.YtdefaeieiaegaaaGreatDoor.RkX
open Go.RowKit
open ValM LexM NumM ExM NmM Kit ExL ExP ExN ExC RawV Within RawL GenL FldP FldR FldC TyM Ty NmO NmA NmI NmT NmR RkM RkA RkB RkC RkD RkO RkL CycO SMp RkV RkW
set_option linter.unusedVariables false
set_option maxRecDepth 100000 in
set_option maxHeartbeats 4000000 in
theorem refRanks_bad (n : Nat) (FA : Option Addr) (fc : Nat) (R : Int) (w : World) (h0 : R ≠ 0) (hff : Calls Tryz.prog 98 #[.slice FA n fc] w fun e w' => e = .returned (.int .i64 R) ∧ Below w.heap.size w w') :
    Calls Tryz.prog 58 #[.slice FA n fc] w fun e w' => e = .returned (.tuple #[.slice none 0 0, .slice none 0 0, .int .i64 R]) ∧ Below w.heap.size w w' := by
  have t1 : (R != 0) = true := bne_iff_ne.2 h0
  have HF := Lib.hid hff
  clear hff h0
  go_enter Tryz.func58, Tryz.ntmps58
  go_wp2_with (go_at_call 98; refine HF.out.mono ?_; rintro e w1 ⟨rfl, hb⟩; have HB := Lib.hid hb; clear hb)
  exact bodyPost_ret (v := .tuple #[.slice none 0 0, .slice none 0 0, .int .i64 R]) (by simp [results, Tryz.results58, go_sem]) rfl ⟨rfl, HB.out⟩
set_option maxRecDepth 100000 in
set_option maxHeartbeats 4000000 in
theorem refRanks_nil (FA : Option Addr) (fc : Nat) (w : World) (hff : Calls Tryz.prog 98 #[.slice FA 0 fc] w fun e w' => e = .returned (.int .i64 0) ∧ Below w.heap.size w w') :
    Calls Tryz.prog 58 #[.slice FA 0 fc] w fun e w' => e = .returned (.tuple #[.slice none 0 0, .slice none 0 0, .int .i64 0]) ∧ Below w.heap.size w w' := by
  have hmm := @run_makeMap Tryz.prog
  have HF := Lib.hid hff
  clear hff
  go_enter Tryz.func58, Tryz.ntmps58
  go_wp2_with (go_at_call 98; refine HF.out.mono ?_; rintro e w1 ⟨rfl, hb⟩; have HB := Lib.hid (b_more hb (.map #[] 0)); clear hb)
  go_loopw [7] (fun lv wr => lv = .int .i64 0 ∧ wr = w1.alloc (.map #[] 0)) (fun _ _ => 0)
  case atStart => exact ⟨rfl, rfl⟩
  case round =>
    obtain ⟨rfl, rfl⟩ := hrel
    go_wp2_with fail
    go_loopw [20, 94] (fun out ii wr => out = .slice none 0 0 ∧ ii = .int .i64 0 ∧ wr = w1.alloc (.map #[] 0)) (fun _ _ _ => 0)
    case atStart => exact ⟨rfl, rfl, rfl⟩
    case round =>
      obtain ⟨rfl, rfl, rfl⟩ := hrel
      go_wp2_with fail
      exact bodyPost_ret (v := .tuple #[.slice none 0 0, .slice none 0 0, .int .i64 0]) (by simp [results, Tryz.results58, go_sem]) rfl ⟨rfl, HB.out⟩
end Go.Proofs.YtdefaeieiaegaaaGreatDoor.RkX
namespace Go.Proofs.YtdefaeieiaegaaaGreatDoor.RkY
open Go.RowKit
open ValM LexM NumM ExM NmM Kit ExL ExP ExN ExC RawV Within RawL GenL FldP FldR FldC TyM Ty NmO NmA NmI NmT NmR RkM RkA RkB RkC RkD RkO RkL CycO SMp RkV RkW RkX EvP
set_option linter.unusedVariables false
theorem refsL_mem {l : List Ex} {s : ByteArray} (h : s ∈ refsL l) : ∃ x ∈ l, s ∈ Ex.refs x := by
  induction l with
  | nil => rw [refsL_nil] at h; simp at h
  | cons x l ih =>
    rw [refsL_cons] at h
    rcases List.mem_append.1 h with h | h
    · exact ⟨x, by simp, h⟩
    · obtain ⟨y, hy, g⟩ := ih h
      exact ⟨y, by simp [hy], g⟩
/-- What has a type refers to fields that are there. -/
theorem ty_there {G : List (ByteArray × Int)} : ∀ (x : Ex) (t : Int), x.okN → Ex.ty G x = (t, 0) → ∀ s ∈ Ex.refs x, (fieldT G s).2 = 0 := by
  refine Ex.ind fun d l ih => ?_
  intro t hok h s hs
  have hokl := ((okN_mk d l).1 hok).2
  by_cases h2 : d.op = 2
  · have hl : l.length = 0 := by
      rw [(okN_op hok).2.2, h2]; rfl
    obtain rfl : l = [] := List.eq_nil_of_length_eq_zero hl
    rw [refs_mk_pos d [] h2, refsL_nil] at hs
    simp at hs
    subst hs
    rw [ty_mk] at h; unfold tyN at h; rw [if_neg (by omega), if_pos h2] at h; rw [h]
  · rw [refs_mk_neg d l h2] at hs
    obtain ⟨y, hy, hsy⟩ := refsL_mem hs
    by_cases h1 : d.op = 1
    · have hl : l.length = 0 := by
        rw [(okN_op hok).2.2, h1]; rfl
      obtain rfl : l = [] := List.eq_nil_of_length_eq_zero hl
      simp at hy
    · obtain ⟨g1, _⟩ := ty_types h h1 h2
      exact ih y hy _ (hokl y hy) (Prod.ext rfl (g1 y hy)) s hsy
/-- What valid fields keep. -/
theorem valid_own {fs : List GenL.Fd} {X : Nat → Ex} (h0 : checkF fs X = 0) : fs.length ≤ 14 ∧ (∀ k (hk : k < fs.length), rightE fs[k] (X k) = 0 ∧ atF fs fs[k].nm = k) ∧ ∀ k (hk : k < fs.length), srcE fs fs[k] (X k) = 0 := by
  unfold checkF at h0
  by_cases hl : 14 < fs.length
  · rw [if_pos hl] at h0; exact absurd h0 (by decide)
  · rw [if_neg hl] at h0
    have hz : ∀ (P : Nat → Int) (n : Nat), scan P n = 0 → ∀ j, j < n → P j = 0 := fun P n => by
      induction n with
      | zero => intro _ j hj; omega
      | succ n ih =>
        intro h j hj
        unfold scan at h
        by_cases e : scan P n = 0
        · rw [if_pos e] at h
          by_cases h2 : j = n
          · subst h2; exact h
          · exact ih e j (by omega)
        · rw [if_neg e] at h; exact absurd h e
    by_cases h1 : scan (ownE fs X) fs.length = 0
    · rw [if_pos h1] at h0
      refine ⟨by omega, fun k hk => ?_, fun k hk => ?_⟩
      · have h2 := hz _ _ h1 k hk
        unfold ownE at h2
        rw [dif_pos hk] at h2
        by_cases h3 : rightE fs[k] (X k) = 0
        · rw [if_pos h3] at h2
          by_cases h4 : atF fs fs[k].nm < k
          · rw [if_pos h4] at h2; exact absurd h2 (by decide)
          · refine ⟨h3, ?_⟩
            rcases Nat.lt_or_ge k (atF fs fs[k].nm) with h5 | h5
            · exfalso
              by_cases h6 : atF fs fs[k].nm < fs.length
              · exact (atF_at h6).2 k hk h5 rfl
              · by_cases h7 : ∃ j, ∃ hj : j < fs.length, fs[j].nm = fs[k].nm ∧ ∀ i (hi : i < fs.length), i < j → fs[i].nm ≠ fs[k].nm
                · obtain ⟨j, hj, e, hm⟩ := h7
                  have := atF_eq fs fs[k].nm j hj hm e
                  omega
                · have h8 : ∀ j (hj : j < fs.length), fs[j].nm ≠ fs[k].nm := fun j => by
                    refine Nat.strongRecOn j fun j ih hj e => h7 ⟨j, hj, e, fun i hi hij => ih i hij hi⟩
                  exact h8 k hk rfl
            · omega
        · rw [if_neg h3] at h2; exact absurd h2 h3
      · have h2 := hz _ _ h0 k hk
        unfold typE at h2
        rwa [dif_pos hk] at h2
    · rw [if_neg h1] at h0; exact absurd h0 h1
theorem valid_inj {fs : List GenL.Fd} {X : Nat → Ex} (h0 : checkF fs X = 0) (i j : Nat) (hi : i < fs.length) (hj : j < fs.length) (e : nmF fs i = nmF fs j) : i = j := by
  obtain ⟨_, h, _⟩ := valid_own h0
  rw [nmF_at fs i hi, nmF_at fs j hj] at e
  rw [← (h i hi).2, e, (h j hj).2]
/-- A source that may be. -/
theorem valid_src {fs : List GenL.Fd} {X : Nat → Ex} (h0 : checkF fs X = 0) (k : Nat) (hk : k < fs.length) (hk1 : fs[k].kind ≠ 1) : (X k).checkE = 0 ∧ ∀ s ∈ Ex.refs (X k), atF fs s < fs.length := by
  obtain ⟨_, h1, h2⟩ := valid_own h0
  have hr := (h1 k hk).1
  have hs := h2 k hk
  have hkt : isT fs[k].kind = true := by
    unfold rightE at hr
    by_cases h3 : LexB.nameE fs[k].nm.data.toList ≠ 0
    · rw [if_pos h3] at hr; exact absurd hr h3
    · rw [if_neg h3] at hr
      by_cases h4 : isT fs[k].kind = true ∧ isT fs[k].ty = true
      · exact h4.1
      · rw [if_neg h4] at hr; exact absurd hr (by decide)
  have hc : (X k).checkE = 0 := by
    unfold rightE at hr
    by_cases h3 : LexB.nameE fs[k].nm.data.toList ≠ 0
    · rw [if_pos h3] at hr; exact absurd hr h3
    · rw [if_neg h3] at hr
      by_cases h4 : isT fs[k].kind = true ∧ isT fs[k].ty = true
      · rw [if_pos h4, if_neg hk1] at hr; exact hr
      · rw [if_neg h4] at hr; exact absurd hr (by decide)
  refine ⟨hc, fun s hs2 => ?_⟩
  have hk3 := isT_iff.1 hkt
  have ht : ∃ t, Ex.ty (fts fs) (X k) = (t, 0) := by
    have hof : ofT (fts fs) (X k) = Ex.ty (fts fs) (X k) := by unfold ofT; rw [if_pos hc]
    unfold srcE at hs
    by_cases h2k : fs[k].kind = 2
    · rw [if_pos h2k] at hs
      unfold fitsT at hs
      rw [hof] at hs
      by_cases h5 : (Ex.ty (fts fs) (X k)).2 = 0
      · exact ⟨_, Prod.ext rfl h5⟩
      · rw [if_neg h5] at hs; exact absurd hs h5
    · rw [if_neg h2k, if_pos (by omega), hof] at hs
      exact ⟨_, Prod.ext rfl hs⟩
  obtain ⟨t, ht⟩ := ht
  have hf := ty_there (X k) t (checkE_zero hc).2.2 ht s hs2
  rcases Nat.lt_or_ge (atF fs s) fs.length with h | h
  · exact h
  · exfalso
    have h3 : ∀ j (hj : j < fs.length), fs[j].nm ≠ s := fun j => by
      refine Nat.strongRecOn j fun j ih hj e => ?_
      have := atF_eq fs s j hj (fun i hi hij => ih i hij hi) e
      omega
    rw [fieldT_fts_none h3] at hf
    exact absurd hf (by decide)
theorem valid_names {fs : List GenL.Fd} {X : Nat → Ex} (h0 : checkF fs X = 0) (k : Nat) (hk : k < fs.length) : srcL fs[k] (X k) = (nd (needsF fs X) k).map (nmF fs) := by
  rw [needsF_nd _ _ _ hk]
  unfold srcL needF
  rw [dif_pos hk]
  by_cases hk1 : fs[k].kind = 1
  · rw [if_pos hk1, if_pos hk1]; rfl
  · rw [if_neg hk1, if_neg hk1]
    obtain ⟨hc, hr⟩ := valid_src h0 k hk hk1
    unfold ofL
    rw [if_pos hc, List.map_map]
    refine (List.map_id _).symm.trans (List.map_congr_left fun s hs => ?_)
    have hs2 : s ∈ Ex.refs (X k) := by
      have e := bytes_refs (Ex.refs (X k))
      unfold mkL at hs
      obtain ⟨b, hb, rfl⟩ := List.mem_map.1 hs
      rw [rise_mem] at hb
      rw [← e]
      unfold mkL
      exact List.mem_map.2 ⟨b, hb, rfl⟩
    have h2 := hr s hs2
    show s = nmF fs (plN fs s)
    unfold plN
    rw [if_pos h2, nmF_at fs _ h2, (atF_at h2).1]
theorem nd_few {fs : List GenL.Fd} {X : Nat → Ex} (k : Nat) (hk : k < fs.length) : (nd (needsF fs X) k).length ≤ 1000 := by
  rw [needsF_nd _ _ _ hk]
  unfold needF
  rw [dif_pos hk]
  split
  · simp
  · rw [List.length_map, mkL_len]; have := ofL_len (X k); omega
/-- FieldRanks of valid fields. -/
theorem ranks_valid (fs : List GenL.Fd) (X : Nat → Ex) (FA : Option Addr) (fc : Nat) (w : World) (hn1 : 1 ≤ fs.length) (hf : Flds w FA fs) (hX : Forms w fs X) (hN : ∀ k, k < fs.length → (X k).nodes ≤ 1048576) (h0 : checkF fs X = 0) :
    Calls Tryz.prog 58 #[.slice FA fs.length fc] w (RefRanks (needsF fs X) (rankF (needsF fs X)) (nmF fs) fs.length w) := by
  obtain ⟨hm, hv, _⟩ := valid_own h0
  have hnl := needsF_len fs X
  refine refRanks_any (needsF fs X) (rankF (needsF fs X)) (nmF fs) fs.length FA fc w hn1 hm hnl (by rw [rankF_len, hnl]) (rankF_fix _) (fun i => (bd_pass (needsF fs X) (needsF fs X).length i).1) ?_ ?_ (valid_inj h0) ?_ ?_ ?_
  · have := FldC.refCheck_any fs X FA fc w (by omega) hf hX hN
    rw [h0] at this
    exact this
  · intro V hV i hi
    have := refAt_any (nmF fs i) fs FA fc V (hf.below hV) (by omega)
    rw [nmF_at fs i hi, (hv i hi).2] at this
    rw [nmF_at fs i hi]
    exact this
  · intro i hi
    rw [nmF_at fs i hi]; exact (hX i hi).1
  · intro i hi
    refine ⟨nd_few i hi, ?_⟩
    have := ((needsF_ok fs X hm).2 i (by rw [hnl]; exact hi)).2
    rwa [hnl] at this
  · intro V hV i hi
    obtain ⟨ad, e, hat⟩ := hf.below hV i hi
    refine ⟨ad, fs[i], e, hat, (nmF_at fs i hi).symm, fun V' hV' => ?_⟩
    rw [← valid_names h0 i hi]
    exact sources_any fs[i] (X i) V' (hN i hi) ((hX i hi).2.below hV')
end Go.Proofs.YtdefaeieiaegaaaGreatDoor.RkY
