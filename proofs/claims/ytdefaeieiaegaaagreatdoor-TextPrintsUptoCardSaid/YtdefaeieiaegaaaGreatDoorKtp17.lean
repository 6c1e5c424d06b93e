/- RkOf RkRef Cyc: what these laws name of them. -/
import Derived.Test.YtdefaeieiaegaaaGreatDoorChecked
import Derived.Laws.OwnMore
import Derived.Laws.CopyOwn
import Derived.Lib.Hide
import Derived.Outline
import Derived.WalkSpells
import Derived.WalkLawsBesides
import Derived.IntWalk
import Derived.OwnWalk
import Derived.WalkKit
import Derived.ProofKit
import Derived.Deep.RegionLaw
import Derived.RangeFuncRecord
import Derived.Deep.AppendLies
import Derived.Below
import Derived.Deep.Draws
import Derived.Shelf.Strings.Builder1
import Derived.Shelf.Strings.Builder2
import Derived.Shelf.Strings.OnBuilder
import Derived.Shelf.Small.Bits
import Derived.Shelf.Small.Wraps
import Derived.Shelf.Strings.BuilderF
import Derived.Shelf.Strings.BuilderK
import Derived.Shelf.Strconv.Atoi
import Derived.Shelf.Strconv.Itoa0
import Derived.Shelf.Strconv.Itoa1
import Derived.Shelf.LaysM
import Derived.Shelf.Strconv.Itoa2
import Derived.Shelf.Strconv.Itoa3
import Derived.Shelf.Strconv.AtoiErrFast
import Derived.Shelf.Strconv.ParseIntEmpty
import Derived.Shelf.Strconv.AtoiFail
import Derived.Shelf.Strconv.Clone
import Derived.Shelf.Strconv.SyntaxError
import Derived.Shelf.LaysC
import Derived.Shelf.Strconv.ToError
import Derived.Shelf.Strconv.Lower
import Derived.Shelf.Strconv.ParseUint10
import Derived.Shelf.Strconv.ParseUint10Empty
import Derived.Shelf.Strconv.ParseUint10Any
import Derived.Shelf.Strconv.ParseInt10
import Derived.Shelf.Strconv.AtoiLong
import Derived.Shelf.Strconv.AtoiInnerAll
import Derived.Shelf.Strconv.RangeError
import Derived.Shelf.Strconv.ToErrorRange
import Derived.Shelf.Strconv.AtoiAll
import Derived.Shelf.Strconv.ErrVarAll
import Derived.Shelf.Strings.Search1
import Derived.Shelf.Strings.Search2
import Derived.Shelf.Strings.Search3
import Derived.Shelf.Strings.Cut
import Derived.Shelf.Strings.Count
import Derived.Shelf.Strings.Shaped
import Derived.Shelf.Strings.Prefix
import Derived.Shelf.Strings.Split
import Derived.Shelf.Bits.Mul64
import Derived.Shelf.Unicode.DecodeSlow
import Derived.Shelf.Slices.Turned
import Derived.Shelf.Slices.Equal
import Derived.Ground.Names2Prog
import Derived.Shelf.Slices.Clone
import Derived.Shelf.Slices.Empties2
import Derived.Ground.SlgfProg
import Derived.Shelf.SlicesE.IndexFunc
import Derived.Ground.SlgmProg
import Derived.Shelf.SortM.Plain
import Derived.Shelf.SortM.SortNone
import Derived.Test.YtdefaeieiaegaaaGreatDoorProg
import Derived.Calls
import Derived.Orders
import Derived.RegionTactic
import Derived.OrdersHeld
import Derived.RangeFuncBox
import Derived.RangeFuncWrites
import Derived.Maps.OwnIn
import Derived.StringKeys
import Derived.Laws.AppendOwnNone
import Derived.Deep.RegionHeld3
import Derived.Deep.QuietTactic
import Derived.Deep.RegionWith
import Derived.Deep.DrawnRows
import Derived.BigQuiet
import Derived.Sort.EncStr
import Derived.RangeFuncNested
import Derived.RangeFuncBound
import Derived.RangeFuncCalls
import Derived.RangeFuncLeaves
import Derived.Shelf.Abstract
import Derived.Shelf.RegionOpen
import Derived.OwnWalkIn
import Derived.TacticsInMore
import Derived.LoopNIn
import Derived.LoopIn
import Derived.ChangeOld
import Derived.LaidMore
import Derived.ChangeAlike
import GoSem.Claim
import Derived.Lib.Bytealg
import Derived.Lib.Small
import Derived.Lib.AtoiAll
import Derived.LaidLaws
import Derived.ChangeArms
import Derived.Lib.LaidTab
import Derived.WideShapes
import Derived.WalkSmall
import Derived.Shelf.SlIter.Nil
import Derived.Ground.GgzProg
import Derived.Deep.DeepCutAuto
import Derived.Deep.CutBlock
import Derived.BigRegion
import Derived.Laws.Pointers
import Derived.Lib.ConvBytes
import Derived.Lib.AtoiErrMem
import Derived.Laws.IdiomStrings
import Derived.Deep.LoopGhost
import Derived.Maps.Own
import Derived.Maps.OwnSet
import Derived.Maps.AppendAt
import Derived.Maps.Range
import Derived.Maps.RangeWalk
import Derived.Test.YtdefaeieiaegaaaGreatDoorKtp05
import Derived.Test.YtdefaeieiaegaaaGreatDoorKtp11
import Derived.Test.YtdefaeieiaegaaaGreatDoorKtp13
import Derived.Test.YtdefaeieiaegaaaGreatDoorKtp14
import Derived.Test.YtdefaeieiaegaaaGreatDoorKtp15
namespace Go.Proofs.YtdefaeieiaegaaaGreatDoor.RkO
open Go.RowKit
open ValM LexM NumM ExM NmM Kit ExL ExP ExN ExC RawV Within RawL GenL FldP FldR FldC NmO NmA NmI NmT NmR RkM RkA RkB RkC RkD
set_option linter.unusedVariables false
theorem nodup_bd : ∀ (n : Nat) (l : List Nat), l.Nodup → (∀ x ∈ l, x < n) → l.length ≤ n
  | 0, l, _, h => by
    cases l with
    | nil => exact Nat.le_refl _
    | cons x l => exact absurd (h x (by simp)) (by omega)
  | n + 1, l, hd, h => by
    have h1 := nodup_bd n (l.erase n) (hd.erase n) (fun x hx => by
      have h2 := (hd.mem_erase_iff).1 hx
      have h3 := h x h2.2
      omega)
    by_cases hm : n ∈ l
    · rw [List.length_erase_of_mem hm] at h1
      omega
    · rw [List.erase_of_not_mem hm] at h1
      omega
def RankOk (ns : List (List Nat)) (w : World) (e : Ending) (w' : World) : Prop :=
  ∃ v, e = .returned (.tuple #[v, .slice none 0 0, .int .i64 0]) ∧ w'.ownsRow w.heap.size 3 1 v ns.length (iV (rankF ns)) ∧ Below w.heap.size w w'
theorem idx_none {r : List Int} (h : ∀ i, i < r.length → rk r i ≠ -1) : Lib.idxOf r (-1) = -1 := by
  have := Lib.idxOf_miss r r.length (-1) fun j hj => h j hj
  rwa [List.take_length] at this
theorem index_any (r : List Int) (x : Int) (v : Value) (base : Nat) (w : World) (hl : r.length ≤ 1048576) (h : w.ownsRow base 3 1 v r.length (iV r)) : Calls Tryz.prog 91 #[v, .int .i64 x] w fun e w' => e = .returned (.int .i64 (Lib.idxOf r x)) ∧ w = w' := by
  rcases Nat.eq_zero_or_pos r.length with h0 | h0
  · obtain ⟨A, c, rfl, _⟩ := IRow.of_own h
    obtain rfl : r = [] := List.eq_nil_of_length_eq_zero h0
    exact (Tryz.slices_Index_int_empty A c x w).mono fun e w' h => ⟨h.1, h.2.symm⟩
  · obtain ⟨A, c, rfl, hr⟩ := IRow.of_own h
    obtain ⟨g, rfl, _⟩ := hr 0 h0
    have := Tryz.slices_Index_int g 0 r.length c r x w (Nat.le_refl _) (by omega) (fun j hj => by
      obtain ⟨g', e, hc⟩ := hr j hj
      injection e with e; injection e with e _ _
      subst e
      rw [Nat.zero_add]; exact hc)
    rw [List.take_length] at this
    exact this.mono fun e w' h => ⟨h.1, h.2.symm⟩
set_option maxRecDepth 100000 in
set_option maxHeartbeats 4000000 in
theorem of_bad (fs : List GenL.Fd) (X : Nat → Ex) (FA : Option Addr) (fc : Nat) (w : World) (hm : fs.length ≤ 1000000000000) (hf : Flds w FA fs) (hX : Forms w fs X) (hT : Tab w) (hcap : fs.length ≤ fc ∧ fc ≤ maxLen) (h0 : checkF fs X ≠ 0) :
    Calls Tryz.prog 55 #[.slice FA fs.length fc] w fun e w' => e = .returned (.tuple #[.slice none 0 0, .slice none 0 0, .int .i64 (checkF fs X)]) ∧ Below w.heap.size w w' := by
  have hc := FldC.check_any fs X FA fc w hm hf hX hT hcap
  obtain ⟨R, hR⟩ : ∃ R, checkF fs X = R := ⟨_, rfl⟩
  rw [hR] at h0 hc ⊢
  have t1 : (R != 0) = true := bne_iff_ne.2 h0
  have HC := Lib.hid hc
  clear hc hR hf hX hT h0
  go_enter Tryz.func55, Tryz.ntmps55
  go_wp2_with (go_at_call 88; refine HC.out.mono ?_; rintro e w1 ⟨rfl, hb⟩; have HB := Lib.hid hb; clear hb)
  exact bodyPost_ret (v := .tuple #[.slice none 0 0, .slice none 0 0, .int .i64 R]) (by simp [results, Tryz.results55, go_sem]) rfl ⟨rfl, HB.out⟩
set_option maxRecDepth 100000 in
set_option maxHeartbeats 4000000 in
theorem of_ok (fs : List GenL.Fd) (X : Nat → Ex) (FA : Option Addr) (fc : Nat) (w : World) (hm : fs.length ≤ 14) (hf : Flds w FA fs) (hX : Forms w fs X) (hT : Tab w) (hcap : fs.length ≤ fc ∧ fc ≤ maxLen) (h0 : checkF fs X = 0) (hr : ∀ i, i < fs.length → 0 ≤ rk (rankF (needsF fs X)) i) :
    Calls Tryz.prog 55 #[.slice FA fs.length fc] w (RankOk (needsF fs X) w) := by
  have hc := FldC.check_any fs X FA fc w (Nat.le_trans hm (by decide)) hf hX hT hcap
  rw [h0] at hc
  clear h0
  have hd : ∀ V : World, Below w.heap.size w V → Calls Tryz.prog 89 #[.slice FA fs.length fc] V (DirOut (needsF fs X) V) := fun V hV => direct_any fs X FA fc V hm (hf.below hV) (hX.below hV) (hT.below hV)
  have hok := needsF_ok fs X hm
  have hnl := needsF_len fs X
  obtain ⟨ns, hns⟩ : ∃ ns, needsF fs X = ns := ⟨_, rfl⟩
  rw [hns] at hd hok hnl hr ⊢
  have hix : Lib.idxOf (rankF ns) (-1) = -1 := idx_none fun i hi => by
    rw [rankF_len, hnl] at hi
    have := hr i hi
    omega
  have HC := Lib.hid hc
  have HD := Lib.hid hd
  have HI := Lib.hid hix
  have HNl := Lib.hid hnl
  clear hnl hc hns hf hX hT hd hix hr
  go_enter Tryz.func55, Tryz.ntmps55
  go_wp2_with fail
  refine HC.out.mono ?_; rintro e w1 ⟨rfl, hb⟩
  have HB := Lib.hid hb
  clear hb
  go_wp2_with fail
  refine (HD.out w1 HB.out).mono ?_; rintro e w2 ⟨A2, c2, rfl, hns2, hb2, -⟩
  have hrk := ranked_any ns A2 c2 w2 hok hns2
  have HR := Lib.hid hrk
  have HB2 := Lib.hid (b_trans HB.out hb2)
  clear hrk hns2 hb2
  go_wp2_with fail
  refine HR.out.mono ?_; rintro e w3 ⟨v3, rfl, hown3, hb3⟩
  have hown := own_base hown3 HB2.out.size
  have HB3 := Lib.hid (b_trans HB2.out hb3)
  have hin := index_any (rankF ns) (-1) v3 w.heap.size w3 (by rw [rankF_len, HNl.out]; omega) (by rw [rankF_len]; exact hown)
  rw [HI.out] at hin
  have HIn := Lib.hid hin
  have HO := Lib.hid hown
  clear hb3 hown3 hin hown
  go_wp2_with fail
  refine HIn.out.mono ?_; rintro e w4 ⟨rfl, rfl⟩
  go_wp2_with fail
  exact bodyPost_ret (v := .tuple #[v3, .slice none 0 0, .int .i64 0]) (by simp [results, Tryz.results55, go_sem]) rfl ⟨v3, rfl, HO.out, HB3.out⟩
end Go.Proofs.YtdefaeieiaegaaaGreatDoor.RkO
namespace Go.Proofs.YtdefaeieiaegaaaGreatDoor.RkL
open Go.RowKit
open ValM LexM NumM ExM NmM Kit ExL ExP ExN ExC RawV Within RawL GenL FldP FldR FldC TyM Ty NmO NmA NmI NmT NmR RkM RkA RkB RkC RkD RkO
set_option linter.unusedVariables false
/-- What a field asks for, by its names, rising. -/
def srcL (f : GenL.Fd) (x : Ex) : List ByteArray := if f.kind = 1 then [] else mkL (rise (bytesL (Ex.refs x)))
def SrcOut (L : List ByteArray) (w : World) (e : Ending) (w' : World) : Prop :=
  ∃ v, e = .returned v ∧ w'.ownsRow w.heap.size 9 1 v L.length (strV L) ∧ Below w.heap.size w w'
set_option maxRecDepth 100000 in
set_option maxHeartbeats 4000000 in
theorem sources_any (f : GenL.Fd) (x : Ex) (w : World) (hx : x.nodes ≤ 1048576) (his : Is w x f.d f.A f.n) :
    Calls Tryz.prog 99 #[.agg #[.string f.nm, .int .i64 f.kind, .int .i64 f.ty, .int .i64 f.d.op, .int .i64 f.d.k, .int .i64 f.d.n, .string f.d.s, .string f.d.nm, .slice f.A f.n f.c]] w (SrcOut (srcL f x) w) := by
  obtain ⟨W5, hW5⟩ : ∃ V, w.alloc (.cells #[.string f.nm, .int .i64 f.kind, .int .i64 f.ty, .int .i64 f.d.op, .int .i64 f.d.k, .int .i64 f.d.n, .string f.d.s, .string f.d.nm, .slice f.A f.n f.c] 55) = V := ⟨_, rfl⟩
  obtain ⟨B9, hB9⟩ : ∃ B, w.heap.size = B := ⟨_, rfl⟩
  have hb5 := b_new w (.cells #[.string f.nm, .int .i64 f.kind, .int .i64 f.ty, .int .i64 f.d.op, .int .i64 f.d.k, .int .i64 f.d.n, .string f.d.s, .string f.d.nm, .slice f.A f.n f.c] 55)
  have hcell := head_cells w f
  unfold rightHead at hcell
  rw [hW5, hB9] at hcell
  rw [hW5] at hb5
  obtain ⟨x0, x1, x2, x3, x4, x5, x6, x7, x8⟩ := hcell W5 (Below.refl _ _)
  have hask := fun c => asked_any x f.d f.A f.n c W5 hx (his.below hb5)
  have HAsk := Lib.hid hask
  have HW5 := Lib.hid hW5
  have HB9 := Lib.hid hB9
  have HB5 := Lib.hid hb5
  clear hcell hask hW5 hb5 his hB9
  by_cases hk : f.kind = 1
  · have t1 : (f.kind == 1) = true := beq_iff_eq.2 hk
    have hout : SrcOut (srcL f x) w (.returned (.slice none 0 0)) W5 := by
      unfold srcL
      rw [if_pos hk]
      exact ⟨_, rfl, World.ownsRow_nil _ _ _ _, HB5.out⟩
    have HOut := Lib.hid hout
    clear hout hk
    go_enter Tryz.func99, Tryz.ntmps99
    go_upto_region 1 with fail
    rw [HW5.out, HB9.out]
    go_wp2_with fail
    go_ret
    exact HOut.out
  · have t1 : (f.kind == 1) = false := beq_eq_false_iff_ne.2 hk
    have hout : ∀ v V, V.ownsRow w.heap.size 9 1 v (rise (bytesL (Ex.refs x))).length ((rise (bytesL (Ex.refs x))).map encStr) → Below w.heap.size w V → SrcOut (srcL f x) w (.returned v) V := fun v V h hV => by
      unfold srcL
      rw [if_neg hk]
      exact ⟨_, rfl, by rw [mkL_len, strV_mkL]; exact h, hV⟩
    have hln := refs_len x
    have HOut := Lib.hid hout
    clear hout hk
    go_enter Tryz.func99, Tryz.ntmps99
    go_upto_region 1 with fail
    rw [HW5.out, HB9.out]
    go_wp2_with fail
    refine (HAsk.out _).mono ?_; rintro e w2 ⟨v, rfl, hown, hb2⟩
    obtain ⟨A2, c2, rfl, hsr⟩ := SRow.of_own hown
    have hri := rising_any (Ex.refs x) A2 c2 w2 (by omega) hsr
    have HRi := Lib.hid hri
    have HB2 := Lib.hid (b_trans HB5.out hb2)
    clear hown hsr hri hb2
    go_wp2_with fail
    refine HRi.out.mono ?_; rintro e w3 ⟨v3, rfl, hown3, hb3⟩
    have HF := Lib.hid (HOut.out v3 w3 (own_base hown3 HB2.out.size) (b_trans HB2.out hb3))
    clear hown3 hb3
    go_wp2_with fail
    go_ret
    exact HF.out
theorem rk_down {ns : List (List Nat)} {r : List Int} (hf : Fix ns r) (hb : ∀ i, -1 ≤ rk r i) (hok : ∀ i, i < ns.length → ∀ j ∈ nd ns i, j < ns.length) (i : Nat) (hi : i < ns.length) : ∀ d : Nat, (d : Int) ≤ rk r i → ∃ k, k < ns.length ∧ rk r k = rk r i - d
  | 0, _ => ⟨i, hi, by omega⟩
  | d + 1, h => by
    obtain ⟨k, hk, e⟩ := rk_down hf hb hok i hi d (by omega)
    have hn : ∀ j ∈ nd ns k, 0 ≤ rk r j := fun j hj => by
      rcases Classical.em (rk r j = -1) with e1 | e1
      · have := above_un (nd ns k) 0 ⟨j, hj, e1⟩
        rw [hf k hk] at this
        omega
      · have := hb j; omega
    rcases (above_ok (nd ns k) 0 hn (Int.le_refl _)).2.2 with e1 | ⟨j, hj, e1⟩
    · rw [hf k hk] at e1; omega
    · rw [hf k hk] at e1
      exact ⟨j, hok k hk j hj, by omega⟩
/-- A rank is less than the number of fields. -/
theorem rk_lt {ns : List (List Nat)} {r : List Int} (hf : Fix ns r) (hb : ∀ i, -1 ≤ rk r i) (hok : ∀ i, i < ns.length → ∀ j ∈ nd ns i, j < ns.length) (i : Nat) (hi : i < ns.length) : rk r i < ns.length := by
  rcases Int.lt_or_le (rk r i) 0 with h0 | h0
  · omega
  · obtain ⟨R, hR⟩ : ∃ R : Nat, rk r i = (R : Int) := ⟨(rk r i).toNat, by omega⟩
    have hex : ∀ d : Nat, ∃ k, d ≤ R → k < ns.length ∧ rk r k = (R : Int) - d := fun d => by
      by_cases hd : d ≤ R
      · obtain ⟨k, h1, h2⟩ := rk_down hf hb hok i hi d (by omega)
        exact ⟨k, fun _ => ⟨h1, by omega⟩⟩
      · exact ⟨0, fun h => absurd h hd⟩
    obtain ⟨c, hc⟩ := Classical.axiomOfChoice hex
    have hnd : ∀ m, m ≤ R + 1 → ((List.range m).map c).Nodup := fun m => by
      induction m with
      | zero => intro _; simp
      | succ m ih =>
        intro hm
        rw [List.range_succ, List.map_append, List.nodup_append]
        refine ⟨ih (by omega), by simp, fun x hx y hy e => ?_⟩
        obtain ⟨p, hp, rfl⟩ := List.mem_map.1 hx
        rw [List.mem_range] at hp
        simp at hy
        subst hy
        have h1 := (hc p (by omega)).2
        have h2 := (hc m (by omega)).2
        rw [e] at h1
        omega
    have := nodup_bd ns.length _ (hnd (R + 1) (Nat.le_refl _)) (fun x hx => by
      obtain ⟨p, hp, rfl⟩ := List.mem_map.1 hx
      rw [List.mem_range] at hp
      exact (hc p (by omega)).1)
    rw [List.length_map, List.length_range] at this
    omega
/-- Done ahead of a level. -/
def doneB (r : List Int) (L i : Nat) : Bool := decide (0 ≤ rk r i ∧ rk r i < (L : Int))
/-- What is not done is ready at a level just when that is its rank. -/
theorem lev_step {ns : List (List Nat)} {r : List Int} (hf : Fix ns r) (hb : ∀ i, -1 ≤ rk r i) (L i : Nat) (hi : i < ns.length) (hd : doneB r L i = false) : (nd ns i).all (doneB r L) = decide (rk r i = (L : Int)) := by
  rw [Bool.eq_iff_iff, List.all_eq_true, decide_eq_true_eq]
  have hd : ¬ (0 ≤ rk r i ∧ rk r i < (L : Int)) := of_decide_eq_false hd
  constructor
  · intro h
    have hj : ∀ j ∈ nd ns i, 0 ≤ rk r j ∧ rk r j < (L : Int) := fun j hj => of_decide_eq_true (h j hj)
    obtain ⟨a, _, c⟩ := above_ok (nd ns i) 0 (fun j h => (hj j h).1) (Int.le_refl _)
    rw [hf i hi] at a c
    rcases c with c | ⟨j, h1, c⟩
    · omega
    · have := hj j h1; omega
  · intro h j hj
    have hn : ∀ j ∈ nd ns i, 0 ≤ rk r j := fun j hj => by
      rcases Classical.em (rk r j = -1) with e1 | e1
      · have := above_un (nd ns i) 0 ⟨j, hj, e1⟩
        rw [hf i hi] at this
        omega
      · have := hb j; omega
    have := (above_ok (nd ns i) 0 hn (Int.le_refl _)).2.1 j hj
    rw [hf i hi] at this
    exact decide_eq_true ⟨hn j hj, by omega⟩
/-- Behind the last level just those are done that have a rank. -/
theorem lev_last {ns : List (List Nat)} {r : List Int} (hf : Fix ns r) (hb : ∀ i, -1 ≤ rk r i) (hok : ∀ i, i < ns.length → ∀ j ∈ nd ns i, j < ns.length) (i : Nat) (hi : i < ns.length) : doneB r ns.length i = decide (rk r i ≠ -1) := by
  have h1 := rk_lt hf hb hok i hi
  have h2 := hb i
  unfold doneB
  rw [Bool.eq_iff_iff, decide_eq_true_eq, decide_eq_true_eq]
  omega
structure HS (w : World) (nm : Nat → ByteArray) (n b : Nat) (H0 H : List Nat) (v : Value) (wr : World) : Prop where
  val : H = H0
  few : H.length ≤ b
  lt : ∀ x ∈ H, x < n
  own : wr.ownsRow w.heap.size 9 1 v H.length (strV (H.map nm))
  below : Below w.heap.size w wr
theorem HS.to {w : World} {nm : Nat → ByteArray} {n b b' : Nat} {H0 H1 H : List Nat} {v : Value} {wr w' : World} (h : HS w nm n b H0 H v wr) (hb : Below wr.heap.size wr w') (e : H0 = H1) (hbb : H.length ≤ b') : HS w nm n b' H1 H v w' :=
  ⟨h.val.trans e, hbb, h.lt, GenL.own_below h.own hb, b_trans h.below hb⟩
end Go.Proofs.YtdefaeieiaegaaaGreatDoor.RkL
namespace Go.Proofs.YtdefaeieiaegaaaGreatDoor.CycO
open Go.RowKit
open ValM LexM NumM ExM NmM Kit ExL ExP ExN ExC RawV Within RawL GenL FldP FldR FldC TyM Ty NmO NmA NmI NmT NmR RkM RkA RkB RkC RkD RkO RegI
set_option linter.unusedVariables false
def itN (f : Nat → Nat) (a : Nat) : Nat → Nat
  | 0 => a
  | k + 1 => f (itN f a k)
def unB (r : List Int) (j : Nat) : Bool := decide (rk r j = -1)
/-- The first that is needed and is unranked. -/
def nxtF (ns : List (List Nat)) (r : List Int) (i : Nat) : Nat := (nd ns i).getD ((nd ns i).findIdx (unB r)) 0
theorem nxt_at {ns : List (List Nat)} {r : List Int} {i : Nat} (h : ∃ j ∈ nd ns i, rk r j = -1) : ∃ hk : (nd ns i).findIdx (unB r) < (nd ns i).length, (nd ns i)[(nd ns i).findIdx (unB r)] = nxtF ns r i ∧ rk r (nxtF ns r i) = -1 := by
  obtain ⟨j, hj, e⟩ := h
  have hk : (nd ns i).findIdx (unB r) < (nd ns i).length := List.findIdx_lt_length_of_exists ⟨j, hj, decide_eq_true e⟩
  have e2 : (nd ns i)[(nd ns i).findIdx (unB r)] = nxtF ns r i := by
    unfold nxtF
    rw [List.getD_eq_getElem?_getD, List.getElem?_eq_getElem hk]; rfl
  refine ⟨hk, e2, ?_⟩
  have := List.findIdx_getElem (xs := nd ns i) (p := unB r) (w := hk)
  rw [e2] at this
  exact of_decide_eq_true this
theorem un_needs {ns : List (List Nat)} {r : List Int} (hf : Fix ns r) (hb : ∀ i, -1 ≤ rk r i) (i : Nat) (hi : i < ns.length) (hu : rk r i = -1) : ∃ j ∈ nd ns i, rk r j = -1 := by
  rcases Classical.em (∃ j ∈ nd ns i, rk r j = -1) with h | h
  · exact h
  · have h0 : ∀ j ∈ nd ns i, 0 ≤ rk r j := fun j hj => by
      have h1 : rk r j ≠ -1 := fun e => h ⟨j, hj, e⟩
      have h2 := hb j
      omega
    have := (above_ok (nd ns i) 0 h0 (Int.le_refl _)).1
    rw [hf i hi, hu] at this
    omega
/-- The closure that asks whether a place has no rank. -/
theorem cclosure_any (r : List Int) (n B g c : Nat) (x : Nat) (W : World) (hx : x < n) (hl : n ≤ 1000) (hbox : W.cell? ⟨B, 0, none⟩ = some (.slice (some ⟨g, 0, none⟩) n c)) (hrow : ∀ j, j < n → W.cell? ⟨g, j, none⟩ = some (.int .i64 (rk r j))) :
    Calls Tryz.prog 141 #[.int .i64 x, .pointer (some ⟨B, 0, none⟩)] W fun e w' => e = .returned (.bool (unB r x)) ∧ ∃ q, w' = W.drewN q := by
  have h1 := hrow x hx
  unfold unB
  generalize rk r x = b at h1
  have hxi : (x : Int) < (n : Int) := by omega
  have hx0 : (0 : Int) ≤ (x : Int) := by omega
  clear hrow
  go_enter Tryz.func141, Tryz.ntmps141
  go_wp2_with fail
  go_ret
  exact ⟨rfl, 0, rfl⟩
def encF3 {n : Nat} (x : Fin n) : Value := .int .i64 (x.val : Int)
/-- slices.IndexFunc of some places, one of them unranked. -/
theorem firstUn_any (r : List Int) (n B g c : Nat) (L : List Nat) (A : Option Addr) (ci : Nat) (W : World) (hn : 1 ≤ n) (hl : n ≤ 1000) (hL : ∀ j ∈ L, j < n) (hLl : L.length ≤ 1048576) (hr : NtRow W A L) (hBl : B < W.heap.size) (hgl : g < W.heap.size)
    (hbox : W.cell? ⟨B, 0, none⟩ = some (.slice (some ⟨g, 0, none⟩) n c)) (hrow : ∀ j, j < n → W.cell? ⟨g, j, none⟩ = some (.int .i64 (rk r j))) (hk : L.findIdx (unB r) < L.length) :
    Calls Tryz.prog 140 #[.slice A L.length ci, .func (.func 141) #[] #[.pointer (some ⟨B, 0, none⟩)]] W fun e w' => e = .returned (.int .i64 (L.findIdx (unB r) : Nat)) ∧ ∃ q, w' = W.drewN q := by
  haveI : Inhabited (Fin n) := ⟨⟨0, by omega⟩⟩
  obtain ⟨g2, rfl, _⟩ := hr 0 (by omega)
  have eg : ∀ args w, (callFunc 141 args).run Tryz.prog w = .ok (.enter 141 args) w := enters_of Tryz.func141 (by kernel_rfl) rfl
  obtain ⟨zs, hzs⟩ : ∃ zs : List (Fin n), zs.map Fin.val = L := ⟨L.pmap (fun j h => ⟨j, h⟩) hL, by rw [List.map_pmap]; simp⟩
  have hzl : zs.length = L.length := by rw [← hzs, List.length_map]
  have hp : PredAt Tryz.prog 141 #[.pointer (some ⟨B, 0, none⟩)] encF3 (fun x : Fin n => unB r x.val) W := fun V x hV =>
    cclosure_any r n B g c x.val V x.isLt hl ((hV.cell (p := ⟨B, 0, none⟩) hBl).trans hbox) (fun j hj => (hV.cell (p := ⟨g, j, none⟩) hgl).trans (hrow j hj))
  have := Tryz.slices_IndexFunc encF3 (fun x : Fin n => unB r x.val) 141 #[.pointer (some ⟨B, 0, none⟩)] eg g2 0 L.length ci zs W hp (by omega) (by omega) (fun j hj => by
    have hj2 : j < L.length := by omega
    obtain ⟨g3, e, hc⟩ := hr j hj2
    injection e with e; injection e with e _ _
    subst e
    rw [Nat.zero_add, hc, getElem!_pos zs j hj]
    unfold encF3
    have : L[j] = (zs[j]).val := by simp only [← hzs, List.getElem_map]
    rw [this])
  refine this.mono fun e w' h => ⟨?_, h.2⟩
  have hat : ∀ j (hj : j < zs.length), (zs[j]!).val = L[j]'(by omega) := fun j hj => by
    rw [getElem!_pos zs j hj]
    simp only [← hzs, List.getElem_map]
  rw [h.1, Lib.idxBy_hit (fun _ y => unB r y.val) zs L.length (L.findIdx (unB r)) default hk (by omega) (by show unB r (zs[L.findIdx (unB r)]!).val = true; rw [hat _ (by omega)]; exact List.findIdx_getElem) (fun j hj => by
    show unB r (zs[j]!).val = false
    rw [hat j (by omega)]
    exact by simpa using List.not_of_lt_findIdx hj)]
theorem containsS_hasB2 (L : List ByteArray) (s : ByteArray) : Lib.containsS L s = hasB L s := by
  rw [Bool.eq_iff_iff, Lib.containsS_iff, hasB_true]
theorem containsN_any (L : List ByteArray) (s : ByteArray) (v : Value) (base : Nat) (w : World) (hl : L.length ≤ 1048576) (h : w.ownsRow base 9 1 v L.length (strV L)) :
    Calls Tryz.prog 139 #[v, .string s] w fun e w' => e = .returned (.bool (hasB L s)) ∧ w = w' := by
  rcases Nat.eq_zero_or_pos L.length with h0 | h0
  · obtain ⟨A, c, rfl, _⟩ := SRow.of_own h
    obtain rfl : L = [] := List.eq_nil_of_length_eq_zero h0
    exact (Tryz.slices_Contains_string_empty A c s w).mono fun e w' h => ⟨h.1, h.2.symm⟩
  · obtain ⟨A, c, rfl, hr⟩ := SRow.of_own h
    obtain ⟨g, rfl, _⟩ := hr 0 h0
    have := Tryz.slices_Contains_string g 0 L.length c L s w (Nat.le_refl _) (by omega) (fun j hj => by
      obtain ⟨g', e, hc⟩ := hr j hj
      injection e with e; injection e with e _ _
      subst e
      rw [Nat.zero_add, List.getD_eq_getElem?_getD, List.getElem?_eq_getElem hj]; exact hc)
    rw [List.take_length, containsS_hasB2] at this
    exact this.mono fun e w' h => ⟨h.1, h.2.symm⟩
theorem indexS_any (L : List ByteArray) (j : Nat) (s : ByteArray) (g c : Nat) (w : World) (hl : L.length ≤ 1048576) (hr : SRow w (some ⟨g, 0, none⟩) L) (hj : j < L.length) (e : L[j] = s) (hne : ∀ i (hi : i < j), L[i] ≠ s) :
    Calls Tryz.prog 142 #[.slice (some ⟨g, 0, none⟩) L.length c, .string s] w fun e w' => e = .returned (.int .i64 (j : Nat)) ∧ w = w' := by
  have := Tryz.slices_Index_string g 0 L.length c L s w (Nat.le_refl _) (by omega) (fun j hj => by
    obtain ⟨g', e, hc⟩ := hr j hj
    injection e with e; injection e with e _ _
    subst e
    rw [Nat.zero_add, List.getD_eq_getElem?_getD, List.getElem?_eq_getElem hj]; exact hc)
  rw [Lib.idxOfS_hit L L.length j s hj (Nat.le_refl _) (by rw [List.getD_eq_getElem?_getD, List.getElem?_eq_getElem hj]; exact e) (fun i hi => by rw [List.getD_eq_getElem?_getD, List.getElem?_eq_getElem (by omega)]; exact hne i hi)] at this
  exact this.mono fun e w' h => ⟨h.1, h.2.symm⟩
def pathF (nm : Nat → ByteArray) (f : Nat → Nat) (a k : Nat) : List ByteArray := (List.range k).map fun i => nm (itN f a i)
theorem path_len (nm : Nat → ByteArray) (f : Nat → Nat) (a k : Nat) : (pathF nm f a k).length = k := by unfold pathF; simp
theorem path_succ (nm : Nat → ByteArray) (f : Nat → Nat) (a k : Nat) : pathF nm f a (k + 1) = pathF nm f a k ++ [nm (itN f a k)] := by unfold pathF; rw [List.range_succ, List.map_append]; rfl
theorem path_at (nm : Nat → ByteArray) (f : Nat → Nat) (a k i : Nat) (h : i < (pathF nm f a k).length) : (pathF nm f a k)[i] = nm (itN f a i) := by simp [pathF]
def CycAt (nm : Nat → ByteArray) (f : Nat → Nat) (a n : Nat) (v : Value) (w : World) : Prop :=
  ∃ k j g c, v = .slice (some ⟨g, j, none⟩) (k - j) c ∧ j < k ∧ k ≤ n ∧ itN f a k = itN f a j ∧ (∀ i i', i < k → i' < k → itN f a i = itN f a i' → i = i') ∧ ∀ i, i < k - j → w.cell? ⟨g, j + i, none⟩ = some (.string (nm (itN f a (j + i))))
/-- The path is without a place twice. -/
def InjK (f : Nat → Nat) (a k : Nat) : Prop := ∀ i i', i < k → i' < k → itN f a i = itN f a i' → i = i'
theorem nodup_it {f : Nat → Nat} {a : Nat} : ∀ k, InjK f a k → ((List.range k).map (itN f a)).Nodup
  | 0, _ => by simp
  | k + 1, h => by
    rw [List.range_succ, List.map_append, List.nodup_append]
    refine ⟨nodup_it k fun i i' hi hi' e => h i i' (by omega) (by omega) e, by simp, fun x hx y hy e => ?_⟩
    obtain ⟨i, hi, rfl⟩ := List.mem_map.1 hx
    rw [List.mem_range] at hi
    simp at hy
    subst hy
    have := h i k (by omega) (by omega) e
    omega
theorem inj_le {f : Nat → Nat} {a k n : Nat} (h : InjK f a k) (hn : ∀ i, itN f a i < n) : k ≤ n := by
  have := nodup_bd n ((List.range k).map (itN f a)) (nodup_it k h) (fun x hx => by
    obtain ⟨i, _, rfl⟩ := List.mem_map.1 hx
    exact hn i)
  rwa [List.length_map, List.length_range] at this
theorem inj_step {f : Nat → Nat} {a k : Nat} (h : InjK f a k) (hk : ∀ i, i < k → itN f a i ≠ itN f a k) : InjK f a (k + 1) := fun i i' hi hi' e => by
  by_cases h1 : i = k
  · by_cases h2 : i' = k
    · omega
    · subst h1; exact absurd e.symm (hk i' (by omega))
  · by_cases h2 : i' = k
    · subst h2; exact absurd e (hk i (by omega))
    · exact h i i' (by omega) (by omega) e
theorem path_has {nm : Nat → ByteArray} {f : Nat → Nat} {a k n : Nat} (hn : ∀ i, itN f a i < n) (hinj : ∀ i j, i < n → j < n → nm i = nm j → i = j) : hasB (pathF nm f a k) (nm (itN f a k)) = true ↔ ∃ i, i < k ∧ itN f a i = itN f a k := by
  rw [hasB_true]
  unfold pathF
  rw [List.mem_map]
  constructor
  · rintro ⟨i, hi, e⟩
    exact ⟨i, List.mem_range.1 hi, hinj _ _ (hn i) (hn k) e⟩
  · rintro ⟨i, hi, e⟩
    exact ⟨i, List.mem_range.2 hi, by rw [e]⟩
def CInv (W1 w : World) (nm : Nat → ByteArray) (f : Nat → Nat) (a k : Nat) (v : Value) (wr : World) : Prop :=
  InjK f a k ∧ wr.ownsRow (w.heap.size + 1) 9 1 v k (strV (pathF nm f a k)) ∧ Below W1.heap.size W1 wr
set_option maxRecDepth 100000 in
set_option maxHeartbeats 4000000 in
theorem cycle_any (FA NA : Option Addr) (fc nc gR rc : Nat) (ns : List (List Nat)) (r : List Int) (nm : Nat → ByteArray) (n at0 : Nat) (w : World) (hf : ∀ V, Below w.heap.size w V → ∀ i, i < n → ∃ ad : Addr, FA = some ad ∧ V.cell? (ad.add (i * 9)) = some (.string (nm i)))
    (hns : ∀ V, Below w.heap.size w V → ∀ i, i < n → ∃ g Ai ci, NA = some ⟨g, 0, none⟩ ∧ V.cell? ⟨g, i, none⟩ = some (.slice Ai (nd ns i).length ci) ∧ NtRow V Ai (nd ns i)) (hr : ∀ j, j < n → w.cell? ⟨gR, j, none⟩ = some (.int .i64 (rk r j))) (hgR : gR < w.heap.size)
    (hn : 1 ≤ n) (h14 : n ≤ 14) (hok : ∀ i, i < n → (nd ns i).length ≤ 1048576 ∧ ∀ j ∈ nd ns i, j < n) (hinj : ∀ i j, i < n → j < n → nm i = nm j → i = j) (hun : ∀ i, i < n → rk r i = -1 → ∃ j ∈ nd ns i, rk r j = -1) (hat : at0 < n) (hau : rk r at0 = -1) :
    Calls Tryz.prog 92 #[.slice FA n fc, .slice NA n nc, .slice (some ⟨gR, 0, none⟩) n rc, .int .i64 at0] w fun e w' => ∃ v, e = .returned v ∧ CycAt nm (nxtF ns r) at0 n v w' ∧ Below w.heap.size w w' := by
  have hit : ∀ i, itN (nxtF ns r) at0 i < n ∧ rk r (itN (nxtF ns r) at0 i) = -1 := fun i => by
    induction i with
    | zero => exact ⟨hat, hau⟩
    | succ i ih =>
      obtain ⟨hk, e, hu⟩ := nxt_at (hun _ ih.1 ih.2)
      exact ⟨(hok _ ih.1).2 _ (by show nxtF ns r _ ∈ _; rw [← e]; exact List.getElem_mem hk), hu⟩
  have hhas := fun k => path_has (nm := nm) (f := nxtF ns r) (a := at0) (k := k) (fun i => (hit i).1) hinj
  obtain ⟨i0, hi, hz0, hz1, hz2⟩ := info_parts1 NmA.infoStr
  obtain ⟨W1, hW1⟩ : ∃ V, w.alloc (.cells #[.slice (some ⟨gR, 0, none⟩) n rc] 99) = V := ⟨_, rfl⟩
  have hb1 := b_new w (.cells #[.slice (some ⟨gR, 0, none⟩) n rc] 99)
  rw [hW1] at hb1
  have hsz1 : W1.heap.size = w.heap.size + 1 := by rw [← hW1]; simp
  have hbox : W1.cell? ⟨w.heap.size, 0, none⟩ = some (.slice (some ⟨gR, 0, none⟩) n rc) := by
    rw [← hW1]; unfold World.cell?; rw [World.alloc_heap_new]; rfl
  have hr1 : ∀ V, Below W1.heap.size W1 V → ∀ j, j < n → V.cell? ⟨gR, j, none⟩ = some (.int .i64 (rk r j)) := fun V hV j hj => ((b_trans hb1 hV).cell (p := ⟨gR, j, none⟩) hgR).trans (hr j hj)
  have hbx : ∀ V, Below W1.heap.size W1 V → V.cell? ⟨w.heap.size, 0, none⟩ = some (.slice (some ⟨gR, 0, none⟩) n rc) := fun V hV => (hV.cell (p := ⟨w.heap.size, 0, none⟩) (by dsimp only; omega)).trans hbox
  have HF := Lib.hid hf
  have HNs := Lib.hid hns
  have HR1 := Lib.hid hr1
  have HBx := Lib.hid hbx
  have HOk := Lib.hid hok
  have HUn := Lib.hid hun
  have HIt := Lib.hid hit
  have HHas := Lib.hid hhas
  have HW1 := Lib.hid hW1
  have HB1 := Lib.hid hb1
  have HS1 := Lib.hid hsz1
  have HInj := Lib.hid hinj
  have HgR := Lib.hid hgR
  clear hf hns hr hgR hok hinj hun hat hau hit hhas hW1 hb1 hsz1 hbox hr1 hbx
  go_enter Tryz.func92, Tryz.ntmps92
  go_wp2_with fail
  rw [HW1.out]
  go_loopw [3, 9, 10] (fun a p _ wr => ∃ (k : Nat) (A : Option Addr) (c : Nat), a = .int .i64 (itN (nxtF ns r) at0 k : Nat) ∧ p = .slice A k c ∧ CInv W1 w nm (nxtF ns r) at0 k (.slice A k c) wr) (fun _ p _ _ => n - (match p with | .slice _ m _ => m | _ => 0))
  case atStart => exact ⟨0, none, 0, rfl, rfl, fun i i' hi => absurd hi (by omega), World.ownsRow_nil _ _ _ _, Below.refl _ _⟩
  case round =>
    obtain ⟨k, A, c, rfl, rfl, hik, hown, hb⟩ := hrel
    have hkn : k ≤ n := inj_le hik (fun i => (HIt.out i).1)
    have hown' : wr.ownsRow (w.heap.size + 1) 9 1 (.slice A k c) (pathF nm (nxtF ns r) at0 k).length (strV (pathF nm (nxtF ns r) at0 k)) := by rw [path_len]; exact hown
    obtain ⟨A', c', hp, hsr⟩ := SRow.of_own hown'
    rw [path_len] at hp
    injection hp with hp1 hp2 hp3
    subst hp1 hp3
    clear hp2
    have hcon := containsN_any (pathF nm (nxtF ns r) at0 k) (nm (itN (nxtF ns r) at0 k)) (.slice A k c) _ wr (by rw [path_len]; omega) hown'
    have hh := HHas.out k
    have hnx : itN (nxtF ns r) at0 (k + 1) = nxtF ns r (itN (nxtF ns r) at0 k) := rfl
    obtain ⟨han, hau⟩ := HIt.out k
    have hstep : (∀ i, i < k → itN (nxtF ns r) at0 i ≠ itN (nxtF ns r) at0 k) → InjK (nxtF ns r) at0 (k + 1) := fun h => inj_step hik h
    have hps := path_succ nm (nxtF ns r) at0 k
    have hpa := path_at nm (nxtF ns r) at0 k
    have hpl := path_len nm (nxtF ns r) at0 k
    have hend : ∀ j g c, j < k → itN (nxtF ns r) at0 j = itN (nxtF ns r) at0 k → A = some ⟨g, 0, none⟩ → CycAt nm (nxtF ns r) at0 n (.slice (some ⟨g, j, none⟩) (k - j) c) wr := fun j g c hj e eA => by
      refine ⟨k, j, g, c, rfl, hj, hkn, e.symm, hik, fun i hi => ?_⟩
      obtain ⟨g', e', hc⟩ := hsr (j + i) (by rw [path_len]; omega)
      rw [eA] at e'
      injection e' with e'; injection e' with e' _ _
      subst e'
      rw [hc, path_at]
    have hne : ∀ j, j < k → itN (nxtF ns r) at0 j = itN (nxtF ns r) at0 k → ∀ i (hi : i < j) (h : i < (pathF nm (nxtF ns r) at0 k).length), (pathF nm (nxtF ns r) at0 k)[i] ≠ nm (itN (nxtF ns r) at0 k) := fun j hj e i hi h e2 => by
      rw [path_at] at e2
      have h3 := HInj.out _ _ (HIt.out i).1 (HIt.out k).1 e2
      have := hik i j (by omega) hj (h3.trans e.symm)
      omega
    generalize pathF nm (nxtF ns r) at0 k = pth at *
    generalize itN (nxtF ns r) at0 k = a at *
    obtain ⟨ad, rfl, hca⟩ := HF.out wr (b_trans HB1.out hb) a han
    have hai : (a : Int) < (n : Int) := by omega
    have ha0 : (0 : Int) ≤ (a : Int) := by omega
    have Hb := Lib.hid hb
    cases hB : hasB pth (nm a) with
    | false =>
      rw [hB] at hcon
      have hij := hstep (fun i hi e => by have := hh.2 ⟨i, hi, e⟩; rw [hB] at this; cases this)
      have hkn1 : k + 1 ≤ n := inj_le hij (fun i => (HIt.out i).1)
      obtain ⟨him, hie, hiu⟩ := nxt_at (HUn.out a han hau)
      have hnsa := fun V hV => HNs.out V hV a han
      have hfu : ∀ V Ai ci, Below W1.heap.size W1 V → NtRow V Ai (nd ns a) → Calls Tryz.prog 140 #[.slice Ai (nd ns a).length ci, .func (.func 141) #[] #[.pointer (some ⟨w.heap.size, 0, none⟩)]] V fun e w' => e = .returned (.int .i64 ((nd ns a).findIdx (unB r) : Nat)) ∧ ∃ q, w' = V.drewN q := fun V Ai ci hV hnt =>
        firstUn_any r n w.heap.size gR rc (nd ns a) Ai ci V hn (by omega) (HOk.out a han).2 (HOk.out a han).1 hnt (by have := hV.size; have := HS1.out; omega) (by have := hV.size; have := HS1.out; have := HgR.out; omega) (HBx.out V hV) (HR1.out V hV) him
      generalize (nd ns a).findIdx (unB r) = m at him hie hfu
      generalize nxtF ns r a = a2 at hie hnx
      have hown1 : ∀ o : Obj, (wr.alloc o).ownsRow (w.heap.size + 1) 9 1 (.slice A k c) k (strV pth) := fun o => hown.alloc o
      have hown9 : ∀ gg cap w6, w6.ownsRow (w.heap.size + 1) 9 1 (.slice (some ⟨gg, 0, none⟩) (k + 1) cap) (k + 1) (strV pth ++ [.string (nm a)]) → ∀ w7, Below w6.heap.size w6 w7 → w7.ownsRow (w.heap.size + 1) 9 1 (.slice (some ⟨gg, 0, none⟩) (k + 1) cap) (k + 1) (strV (pathF nm (nxtF ns r) at0 (k + 1))) := fun gg cap w6 h w7 hV => by
        rw [hps, strV_append]
        exact GenL.own_below h hV
      have hgrw : ∀ (o : Obj) (w6 : World), (wr.alloc o).grownBy w6 (Value.slice A k c).ownBlock → Below W1.heap.size W1 w6 := fun o w6 hg =>
        (b_trans hb (b_new wr o)).grown hg (b_trans hb (b_new wr o)).size (fun g e => by have := (hown.lt g e).1; have := HS1.out; omega)
      have hsz := hb.size
      have hs1 := HS1.out
      have hszw : w.heap.size + 1 ≤ wr.heap.size := by omega
      have HOwn1 := Lib.hid hown1
      have HOwn9 := Lib.hid hown9
      have HGrw := Lib.hid hgrw
      have HCon := Lib.hid hcon
      have HIj := Lib.hid hij
      have HNx := Lib.hid hnx
      have HNsa := Lib.hid hnsa
      have HFu := Lib.hid hfu
      have HIe := Lib.hid hie
      clear hown1 hown9 hgrw hcon hij hnx hnsa hfu hne hend hpa hps hstep hh hsr hown' hown hik hb hB hsz hs1 hiu hau HBx HR1 HOk HUn HIt HHas HW1 HS1 HInj HgR HF HNs
      go_wp2_with (first
        | (go_at_call 139; refine HCon.out.mono ?_; rintro e w5 ⟨rfl, rfl⟩)
        | (at_builtin; refine wpList_append_lies _ rfl _ _ 38 rfl (w.heap.size + 1) 9 i0 (.string ⟨#[]⟩) 1 16 Tryz.underlying38 hi hz0 hz1 hz2 rfl (by decide) (.slice A k c) k (strV pth) rfl (HOwn1.out _) ⟨wr.heap.size, 0, none⟩ 1 1 [.string (nm a)] rfl rfl (World.news_of_block (cs := #[.string (nm a)]) (t := 9) (fr := (0, 0)) (World.alloc_heap_new wr _)) (by simp [Value.oneCell']) (by decide) (by unfold maxLen; omega) (by omega) (by simp; omega) (wr.heap.size + 1) (by simp) ?_))
      intro gg cap w6 hown6 hgrow6 _ _
      have hb6 := HGrw.out _ _ hgrow6
      obtain ⟨gN, Ai, ci, rfl, hcN, hntr⟩ := HNsa.out w6 (b_trans HB1.out hb6)
      have hfu := HFu.out w6 Ai ci hb6 hntr
      have HFu2 := Lib.hid hfu
      have HOwn6 := Lib.hid hown6
      have HB6 := Lib.hid hb6
      have HNt := Lib.hid hntr
      clear hfu hown6 hgrow6 hb6 hntr
      go_wp2_with fail
      refine HFu2.out.mono ?_; rintro e w7 ⟨rfl, hq⟩
      have hb67 : Below w6.heap.size w6 w7 := by obtain ⟨q, rfl⟩ := hq; exact b_drewN (Below.refl _ _) q
      have hcN7 := (hb67.cell (p := ⟨gN, a, none⟩) (World.block_lt_of_cell? w6 _ hcN)).trans hcN
      obtain ⟨gA, rfl, hcA⟩ := (HNt.out.below hb67) m him
      rw [HIe.out] at hcA
      have hown7 := HOwn9.out _ _ _ HOwn6.out w7 hb67
      have HI7 := Lib.hid (show CInv W1 w nm (nxtF ns r) at0 (k + 1) (.slice (some ⟨gg, 0, none⟩) (k + 1) cap) w7 from ⟨HIj.out, hown7, b_trans HB6.out hb67⟩)
      have hmi : (m : Int) < ((nd ns a).length : Int) := by omega
      have hm0 : (0 : Int) ≤ (m : Int) := by omega
      clear hie HIe hq hb67 hown7 hcN HFu2 HOwn6 HNt HOwn9 HFu HNsa HGrw HOwn1 HCon
      generalize (nd ns a).length = L at him hcN7 hmi
      go_wp2_with fail
      go_roundw
      case rel => exact ⟨k + 1, _, _, by rw [HNx.out], by go_num, HI7.out⟩
      case measure => simp; omega
    | true =>
      rw [hB] at hcon
      obtain ⟨j, hjk, hje⟩ := hh.1 hB
      obtain ⟨g, cap, hv, _, _, hkc, _, _⟩ := GenL.own_form hown (by omega)
      injection hv with hv1 hv2 hv3
      subst hv1 hv3
      have hix := indexS_any pth j (nm a) g c wr (by omega) hsr (by omega) (by rw [hpa, hje]) (fun i hi => hne j hjk hje i hi _)
      rw [hpl] at hix
      have hfin := hend j g (c - j) hjk hje rfl
      have hcj : ¬ c = j := by omega
      have hjk2 : j ≤ k := by omega
      have hji : (j : Int) ≤ (k : Int) := by omega
      have HIx := Lib.hid hix
      have HCon := Lib.hid hcon
      have HFin := Lib.hid hfin
      clear hix hcon hfin hne hend hpa hpl hps hstep hnx hh hsr hown' hown hik hb hB hje hv2 hau han hkn hjk
      go_wp2_with (first
        | (go_at_call 139; refine HCon.out.mono ?_; rintro e w5 ⟨rfl, rfl⟩)
        | (go_at_call 142; refine HIx.out.mono ?_; rintro e w5 ⟨rfl, rfl⟩))
      go_ret
      exact ⟨_, rfl, HFin.out, b_trans HB1.out Hb.out⟩
def nmF (fs : List GenL.Fd) (i : Nat) : ByteArray := ((fs[i]?).map GenL.Fd.nm).getD ⟨#[]⟩
theorem nmF_at (fs : List GenL.Fd) (i : Nat) (h : i < fs.length) : nmF fs i = fs[i].nm := by unfold nmF; rw [List.getElem?_eq_getElem h]; rfl
set_option maxRecDepth 100000 in
set_option maxHeartbeats 4000000 in
theorem of_cyc (fs : List GenL.Fd) (X : Nat → Ex) (FA : Option Addr) (fc at0 : Nat) (w : World) (hm : fs.length ≤ 14) (hf : Flds w FA fs) (hX : Forms w fs X) (hT : Tab w) (hcap : fs.length ≤ fc ∧ fc ≤ maxLen) (h0 : checkF fs X = 0)
    (hat : at0 < fs.length) (hau : rk (rankF (needsF fs X)) at0 = -1) (hfst : ∀ j, j < at0 → rk (rankF (needsF fs X)) j ≠ -1) (hinj : ∀ i j, i < fs.length → j < fs.length → nmF fs i = nmF fs j → i = j) :
    Calls Tryz.prog 55 #[.slice FA fs.length fc] w fun e w' => ∃ v, e = .returned (.tuple #[.slice none 0 0, v, .int .i64 10]) ∧ CycAt (nmF fs) (nxtF (needsF fs X) (rankF (needsF fs X))) at0 fs.length v w' ∧ Below w.heap.size w w' := by
  have hc := FldC.check_any fs X FA fc w (Nat.le_trans hm (by decide)) hf hX hT hcap
  rw [h0] at hc
  clear h0
  have hd : ∀ V : World, Below w.heap.size w V → Calls Tryz.prog 89 #[.slice FA fs.length fc] V (DirOut (needsF fs X) V) := fun V hV => direct_any fs X FA fc V hm (hf.below hV) (hX.below hV) (hT.below hV)
  have hok := needsF_ok fs X hm
  have hnl := needsF_len fs X
  obtain ⟨ns, hns⟩ : ∃ ns, needsF fs X = ns := ⟨_, rfl⟩
  rw [hns] at hd hok hnl hau hfst ⊢
  have hix : Lib.idxOf (rankF ns) (-1) = at0 := by
    have := Lib.idxOf_hit (rankF ns) (rankF ns).length at0 (-1) (by rw [rankF_len, hnl]; exact hat) (Nat.le_refl _) hau hfst
    rwa [List.take_length] at this
  have hun := un_needs (rankF_fix ns) (fun i => (bd_pass ns ns.length i).1)
  have hnm : ∀ V, Below w.heap.size w V → ∀ i, i < fs.length → ∃ ad : Addr, FA = some ad ∧ V.cell? (ad.add (i * 9)) = some (.string (nmF fs i)) := fun V hV i hi => by
    obtain ⟨ad, e, h⟩ := hf.below hV i hi
    exact ⟨ad, e, by rw [nmF_at fs i hi]; exact h.1⟩
  rw [hnl] at hun
  have hok2 := hok
  unfold Okn at hok2
  rw [hnl] at hok2
  have HC := Lib.hid hc
  have HD := Lib.hid hd
  have HI := Lib.hid hix
  have HNl := Lib.hid hnl
  have HUn := Lib.hid hun
  have HOk2 := Lib.hid hok2
  have HNm := Lib.hid hnm
  have HInj := Lib.hid hinj
  have HAu := Lib.hid hau
  have hn1 : 1 ≤ fs.length := by omega
  clear hnl hc hns hf hX hT hd hix hfst hun hok2 hnm hinj hau
  generalize nmF fs = nm at HNm HInj ⊢
  generalize fs.length = n at *
  go_enter Tryz.func55, Tryz.ntmps55
  go_wp2_with fail
  refine HC.out.mono ?_; rintro e w1 ⟨rfl, hb⟩
  have HB := Lib.hid hb
  clear hb
  go_wp2_with fail
  refine (HD.out w1 HB.out).mono ?_; rintro e w2 ⟨A2, c2, rfl, hns2, hb2, -⟩
  have hrk := ranked_any ns A2 c2 w2 hok hns2
  rw [HNl.out] at hrk ⊢
  have HR := Lib.hid hrk
  have HB2 := Lib.hid (b_trans HB.out hb2)
  have HNs2 := Lib.hid hns2
  clear hrk hns2 hb2
  go_wp2_with fail
  refine HR.out.mono ?_; rintro e w3 ⟨v3, rfl, hown3, hb3⟩
  have hin := index_any (rankF ns) (-1) v3 w2.heap.size w3 (by rw [rankF_len, HNl.out]; omega) (by rw [rankF_len]; exact hown3)
  rw [HI.out] at hin
  obtain ⟨gR, rc, rfl, _, hgl, _, _, hcl⟩ := GenL.own_form hown3 (by rw [HNl.out]; omega)
  rw [HNl.out] at hin
  have HIn := Lib.hid hin
  have hcyc := cycle_any FA A2 fc c2 gR rc ns (rankF ns) nm n at0 w3 (fun V hV => HNm.out V (b_trans HB2.out (b_trans hb3 hV))) (fun V hV i hi => by
    obtain ⟨g, e, Ai, ci, h1, h2⟩ := (HNs2.out.below (b_trans hb3 hV)) i (by rw [HNl.out]; exact hi)
    exact ⟨g, Ai, ci, e, h1, h2⟩) (fun j hj => by
    rw [hcl j (by rw [HNl.out]; omega), iV_at _ _ (by rw [rankF_len, HNl.out]; exact hj)]) hgl hn1 hm HOk2.out.2 HInj.out HUn.out hat HAu.out
  have HCyc := Lib.hid hcyc
  have HB3 := Lib.hid (b_trans HB2.out hb3)
  rw [HNl.out]
  clear hb3 hown3 hin hcl hcyc hgl
  go_wp2_with fail
  refine HIn.out.mono ?_; rintro e w4 ⟨rfl, rfl⟩
  have hge : (0 : Int) ≤ (at0 : Int) := by omega
  go_wp2_with fail
  refine HCyc.out.mono ?_; rintro e w5 ⟨v, rfl, hv, hb5⟩
  have HV := Lib.hid hv
  have HB5 := Lib.hid (b_trans HB3.out hb5)
  clear hv hb5
  go_wp2_with fail
  exact bodyPost_ret (v := .tuple #[.slice none 0 0, v, .int .i64 10]) (by simp [results, Tryz.results55, go_sem]) rfl ⟨v, rfl, HV.out, HB5.out⟩
end Go.Proofs.YtdefaeieiaegaaaGreatDoor.CycO
