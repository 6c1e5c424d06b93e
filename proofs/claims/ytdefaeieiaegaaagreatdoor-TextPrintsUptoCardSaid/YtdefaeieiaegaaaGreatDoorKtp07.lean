/- PrintRef ExRef PrintTop ParsMath PbAll: what these laws name of them. -/
import Derived.Deep.RegionHeld3
import Derived.Deep.DeepCutAuto
import Derived.IntWalk
import Derived.RangeFuncNested
import Derived.RangeFuncBound
import Derived.RangeFuncCalls
import Derived.RangeFuncLeaves
import Derived.Shelf.Abstract
import Derived.Shelf.RegionOpen
import Derived.WalkKit
import Derived.OwnWalkIn
import Derived.TacticsInMore
import Derived.LoopNIn
import Derived.LoopIn
import Derived.Deep.QuietTactic
import Derived.Deep.RegionWith
import Derived.ChangeOld
import Derived.Deep.DrawnRows
import Derived.LaidMore
import Derived.BigQuiet
import Derived.RangeFuncBox
import Derived.Test.YtdefaeieiaegaaaGreatDoorProg
import Derived.ProofKit
import Derived.Lib.Hide
import Derived.Outline
import Derived.Below
import Derived.WalkSpells
import Derived.WalkLawsBesides
import Derived.Laws.OwnMore
import Derived.OwnWalk
import Derived.ChangeAlike
import GoSem.Claim
import Derived.Lib.Bytealg
import Derived.Lib.Small
import Derived.Lib.AtoiAll
import Derived.Deep.Draws
import Derived.LaidLaws
import Derived.ChangeArms
import Derived.Lib.LaidTab
import Derived.WideShapes
import Derived.Test.YtdefaeieiaegaaaGreatDoorChecked
import Derived.WalkSmall
import Derived.Deep.AppendLies
import Derived.Deep.RegionLaw
import Derived.RegionTactic
import Derived.BigRegion
import Derived.Laws.Pointers
import Derived.Lib.ConvBytes
import Derived.Lib.AtoiErrMem
import Derived.Laws.IdiomStrings
import Derived.Deep.LoopGhost
import Derived.Lib.UnsafeStr
import Derived.Lib.ItoaNum
import Derived.Lib.AtoiTie
import Derived.Lib.ItoaMem
import Derived.Lib.AppendIntMem
import Derived.Lib.ItoaLen
import Derived.Shelf.Strings.Builder1
import Derived.Shelf.Strings.Builder2
import Derived.Shelf.Strings.OnBuilder
import Derived.Shelf.Small.Bits
import Derived.Shelf.Small.Wraps
import Derived.Shelf.Strings.BuilderF
import Derived.Shelf.Strings.BuilderK
import Derived.Shelf.Strconv.Atoi
import Derived.Shelf.Strconv.Itoa0
import Derived.Shelf.Strconv.Itoa1
import Derived.Shelf.LaysM
import Derived.Shelf.Strconv.Itoa2
import Derived.Shelf.Strconv.Itoa3
import Derived.Shelf.Strconv.AtoiErrFast
import Derived.Shelf.Strconv.ParseIntEmpty
import Derived.Shelf.Strconv.AtoiFail
import Derived.Shelf.Strconv.Clone
import Derived.Shelf.Strconv.SyntaxError
import Derived.Shelf.LaysC
import Derived.Shelf.Strconv.ToError
import Derived.Shelf.Strconv.Lower
import Derived.Shelf.Strconv.ParseUint10
import Derived.Shelf.Strconv.ParseUint10Empty
import Derived.Shelf.Strconv.ParseUint10Any
import Derived.Shelf.Strconv.ParseInt10
import Derived.Shelf.Strconv.AtoiLong
import Derived.Shelf.Strconv.AtoiInnerAll
import Derived.Shelf.Strconv.RangeError
import Derived.Shelf.Strconv.ToErrorRange
import Derived.Shelf.Strconv.AtoiAll
import Derived.Shelf.Strconv.ErrVarAll
import Derived.Shelf.Strings.Search1
import Derived.Shelf.Strings.Search2
import Derived.Shelf.Strings.Search3
import Derived.Shelf.Strings.Cut
import Derived.Shelf.Strings.Count
import Derived.Shelf.Strings.Shaped
import Derived.Shelf.Strings.Prefix
import Derived.Shelf.Strings.Split
import Derived.Shelf.Bits.Mul64
import Derived.Shelf.Unicode.DecodeSlow
import Derived.Shelf.Slices.Turned
import Derived.Shelf.Slices.Equal
import Derived.Ground.Names2Prog
import Derived.Shelf.Slices.Clone
import Derived.Shelf.Slices.Empties2
import Derived.Ground.SlgfProg
import Derived.Shelf.SlicesE.IndexFunc
import Derived.Ground.SlgmProg
import Derived.Shelf.SortM.Plain
import Derived.Shelf.SortM.SortNone
import Derived.Deep.CutBlock
import Derived.Lib.ReplaceLaws
import Derived.Lib.CountLaws
import Derived.Test.YtdefaeieiaegaaaGreatDoorKtp01
import Derived.Test.YtdefaeieiaegaaaGreatDoorKtp02
import Derived.Test.YtdefaeieiaegaaaGreatDoorKtp03
import Derived.Test.YtdefaeieiaegaaaGreatDoorKtp04
import Derived.Test.YtdefaeieiaegaaaGreatDoorKtp06
namespace Go.Proofs.YtdefaeieiaegaaaGreatDoor.PsLx
end Go.Proofs.YtdefaeieiaegaaaGreatDoor.PsLx
namespace Go.Proofs.YtdefaeieiaegaaaGreatDoor.PrR
open Go.RowKit
open ValM LexM ExM ShowM PrM Kit ExL ExN ExV GenL Prn
set_option linter.unusedVariables false
/-- The sign that closeness tells. -/
def csF (op : Int) : List UInt8 := if op = 1 ∨ op = 2 ∨ op = 17 ∨ op = 18 then [] else if op = 4 then signF op ++ [32] else signF op
theorem cs_len (op : Int) : (csF op).length ≤ 4 := by
  have := rwF_len op
  unfold csF
  split
  · simp
  · split
    · simp; omega
    · omega
def RAt (x : Ex) : Prop := ∀ (d : Nd) (A : Option Addr) (n c : Nat) (w : World), Is w x d A n → Show.Pow w →
  Calls Tryz.prog 29 #[.agg #[.int .i64 d.op, .int .i64 d.k, .int .i64 d.n, .string d.s, .string d.nm, .slice A n c]] w fun e w' => e = .returned (.string ⟨(Ex.txt x).toArray⟩) ∧ Below w.heap.size w w'
theorem close1 (w : World) : Calls Tryz.prog 60 #[.int .i64 1] w fun e w' => e = .returned (.tuple #[.int .i64 (precF 1 + 1), .string ⟨(csF 1).toArray⟩]) ∧ w = w' := by
  go_enter Tryz.func60, Tryz.ntmps60
  go_wp2
  go_ret2
  exact ⟨rfl, rfl⟩
theorem close2 (w : World) : Calls Tryz.prog 60 #[.int .i64 2] w fun e w' => e = .returned (.tuple #[.int .i64 (precF 2 + 1), .string ⟨(csF 2).toArray⟩]) ∧ w = w' := by
  go_enter Tryz.func60, Tryz.ntmps60
  go_wp2
  go_ret2
  exact ⟨rfl, rfl⟩
theorem close3 (w : World) : Calls Tryz.prog 60 #[.int .i64 3] w fun e w' => e = .returned (.tuple #[.int .i64 (precF 3 + 1), .string ⟨(csF 3).toArray⟩]) ∧ w = w' := by
  go_enter Tryz.func60, Tryz.ntmps60
  go_wp2
  go_ret2
  exact ⟨rfl, rfl⟩
theorem close4 (w : World) : Calls Tryz.prog 60 #[.int .i64 4] w fun e w' => e = .returned (.tuple #[.int .i64 (precF 4 + 1), .string ⟨(csF 4).toArray⟩]) ∧ w = w' := by
  go_enter Tryz.func60, Tryz.ntmps60
  go_wp2
  go_ret2
  exact ⟨rfl, rfl⟩
theorem close5 (w : World) : Calls Tryz.prog 60 #[.int .i64 5] w fun e w' => e = .returned (.tuple #[.int .i64 (precF 5 + 1), .string ⟨(csF 5).toArray⟩]) ∧ w = w' := by
  go_enter Tryz.func60, Tryz.ntmps60
  go_wp2
  go_ret2
  exact ⟨rfl, rfl⟩
theorem close6 (w : World) : Calls Tryz.prog 60 #[.int .i64 6] w fun e w' => e = .returned (.tuple #[.int .i64 (precF 6 + 1), .string ⟨(csF 6).toArray⟩]) ∧ w = w' := by
  go_enter Tryz.func60, Tryz.ntmps60
  go_wp2
  go_ret2
  exact ⟨rfl, rfl⟩
theorem close7 (w : World) : Calls Tryz.prog 60 #[.int .i64 7] w fun e w' => e = .returned (.tuple #[.int .i64 (precF 7 + 1), .string ⟨(csF 7).toArray⟩]) ∧ w = w' := by
  go_enter Tryz.func60, Tryz.ntmps60
  go_wp2
  go_ret2
  exact ⟨rfl, rfl⟩
theorem close8 (w : World) : Calls Tryz.prog 60 #[.int .i64 8] w fun e w' => e = .returned (.tuple #[.int .i64 (precF 8 + 1), .string ⟨(csF 8).toArray⟩]) ∧ w = w' := by
  go_enter Tryz.func60, Tryz.ntmps60
  go_wp2
  go_ret2
  exact ⟨rfl, rfl⟩
theorem close9 (w : World) : Calls Tryz.prog 60 #[.int .i64 9] w fun e w' => e = .returned (.tuple #[.int .i64 (precF 9 + 1), .string ⟨(csF 9).toArray⟩]) ∧ w = w' := by
  go_enter Tryz.func60, Tryz.ntmps60
  go_wp2
  go_ret2
  exact ⟨rfl, rfl⟩
theorem close10 (w : World) : Calls Tryz.prog 60 #[.int .i64 10] w fun e w' => e = .returned (.tuple #[.int .i64 (precF 10 + 1), .string ⟨(csF 10).toArray⟩]) ∧ w = w' := by
  go_enter Tryz.func60, Tryz.ntmps60
  go_wp2
  go_ret2
  exact ⟨rfl, rfl⟩
theorem close11 (w : World) : Calls Tryz.prog 60 #[.int .i64 11] w fun e w' => e = .returned (.tuple #[.int .i64 (precF 11 + 1), .string ⟨(csF 11).toArray⟩]) ∧ w = w' := by
  go_enter Tryz.func60, Tryz.ntmps60
  go_wp2
  go_ret2
  exact ⟨rfl, rfl⟩
theorem close12 (w : World) : Calls Tryz.prog 60 #[.int .i64 12] w fun e w' => e = .returned (.tuple #[.int .i64 (precF 12 + 1), .string ⟨(csF 12).toArray⟩]) ∧ w = w' := by
  go_enter Tryz.func60, Tryz.ntmps60
  go_wp2
  go_ret2
  exact ⟨rfl, rfl⟩
theorem close13 (w : World) : Calls Tryz.prog 60 #[.int .i64 13] w fun e w' => e = .returned (.tuple #[.int .i64 (precF 13 + 1), .string ⟨(csF 13).toArray⟩]) ∧ w = w' := by
  go_enter Tryz.func60, Tryz.ntmps60
  go_wp2
  go_ret2
  exact ⟨rfl, rfl⟩
theorem close14 (w : World) : Calls Tryz.prog 60 #[.int .i64 14] w fun e w' => e = .returned (.tuple #[.int .i64 (precF 14 + 1), .string ⟨(csF 14).toArray⟩]) ∧ w = w' := by
  go_enter Tryz.func60, Tryz.ntmps60
  go_wp2
  go_ret2
  exact ⟨rfl, rfl⟩
theorem close15 (w : World) : Calls Tryz.prog 60 #[.int .i64 15] w fun e w' => e = .returned (.tuple #[.int .i64 (precF 15 + 1), .string ⟨(csF 15).toArray⟩]) ∧ w = w' := by
  go_enter Tryz.func60, Tryz.ntmps60
  go_wp2
  go_ret2
  exact ⟨rfl, rfl⟩
theorem close16 (w : World) : Calls Tryz.prog 60 #[.int .i64 16] w fun e w' => e = .returned (.tuple #[.int .i64 (precF 16 + 1), .string ⟨(csF 16).toArray⟩]) ∧ w = w' := by
  go_enter Tryz.func60, Tryz.ntmps60
  go_wp2
  go_ret2
  exact ⟨rfl, rfl⟩
theorem close17 (w : World) : Calls Tryz.prog 60 #[.int .i64 17] w fun e w' => e = .returned (.tuple #[.int .i64 (precF 17 + 1), .string ⟨(csF 17).toArray⟩]) ∧ w = w' := by
  go_enter Tryz.func60, Tryz.ntmps60
  go_wp2
  go_ret2
  exact ⟨rfl, rfl⟩
theorem close18 (w : World) : Calls Tryz.prog 60 #[.int .i64 18] w fun e w' => e = .returned (.tuple #[.int .i64 (precF 18 + 1), .string ⟨(csF 18).toArray⟩]) ∧ w = w' := by
  go_enter Tryz.func60, Tryz.ntmps60
  go_wp2
  go_ret2
  exact ⟨rfl, rfl⟩
theorem closeness_any (op : Int) (h1 : 1 ≤ op) (h2 : op ≤ 18) (w : World) : Calls Tryz.prog 60 #[.int .i64 op] w fun e w' => e = .returned (.tuple #[.int .i64 (precF op + 1), .string ⟨(csF op).toArray⟩]) ∧ w = w' := by
  obtain rfl | rfl | rfl | rfl | rfl | rfl | rfl | rfl | rfl | rfl | rfl | rfl | rfl | rfl | rfl | rfl | rfl | rfl : op = 1 ∨ op = 2 ∨ op = 3 ∨ op = 4 ∨ op = 5 ∨ op = 6 ∨ op = 7 ∨ op = 8 ∨ op = 9 ∨ op = 10 ∨ op = 11 ∨ op = 12 ∨ op = 13 ∨ op = 14 ∨ op = 15 ∨ op = 16 ∨ op = 17 ∨ op = 18 := by omega
  · exact close1 w
  · exact close2 w
  · exact close3 w
  · exact close4 w
  · exact close5 w
  · exact close6 w
  · exact close7 w
  · exact close8 w
  · exact close9 w
  · exact close10 w
  · exact close11 w
  · exact close12 w
  · exact close13 w
  · exact close14 w
  · exact close15 w
  · exact close16 w
  · exact close17 w
  · exact close18 w
set_option maxHeartbeats 2000000 in
theorem bracketed_any (x : Ex) (hx : RAt x) (ho : 1 ≤ x.d.op ∧ x.d.op ≤ 18) (hsz : (Ex.txt x).length ≤ 100000) (p least : Int) (hp : least = p + 1) (d : Nd) (A : Option Addr) (n c : Nat) (w : World) (his : Is w x d A n) (hv : Show.Pow w) :
    Calls Tryz.prog 62 #[.agg #[.int .i64 d.op, .int .i64 d.k, .int .i64 d.n, .string d.s, .string d.nm, .slice A n c], .int .i64 least] w fun e w' => e = .returned (.string ⟨(br p (x.d.op, Ex.txt x)).toArray⟩) ∧ Below w.heap.size w w' := by
  have hd := is_d his
  rw [hd] at ho ⊢
  obtain ⟨t, ht⟩ : ∃ t : ByteArray, t = ⟨(Ex.txt x).toArray⟩ := ⟨_, rfl⟩
  have htl : t.data.toList = Ex.txt x := by rw [ht]
  have hts : t.size ≤ 100000 := by show t.data.toList.length ≤ _; rw [htl]; exact hsz
  obtain ⟨cc, hcc⟩ : ∃ cc, precF d.op + 1 = cc := ⟨_, rfl⟩
  have hq := fun W => closeness_any d.op ho.1 ho.2 W
  rw [hcc] at hq
  have hc := fun W (hb : Below w.heap.size w W) => hx d A n c W (his.below hb) (hv.below hb)
  rw [← ht] at hc
  have hbr : br p (d.op, Ex.txt x) = if cc < least then 40 :: (t.data.toList ++ [41]) else t.data.toList := by
    unfold br; rw [htl]; dsimp only
    by_cases h : precF d.op < p
    · rw [if_pos h, if_pos (by omega)]
    · rw [if_neg h, if_neg (by omega)]
  obtain ⟨r, hr⟩ : ∃ r, br p (d.op, Ex.txt x) = r := ⟨_, rfl⟩
  rw [hr] at hbr ⊢
  have HR := Lib.hid hbr
  have HC := Lib.hid hc
  have HQ := Lib.hid hq
  have s1 := adds ⟨#[40]⟩ t (by decide) (by omega)
  have s2 := adds (⟨#[40]⟩ ++ t) ⟨#[41]⟩ (by rw [ByteArray.size_append]; show 1 + t.size ≤ _; omega) (by decide)
  clear hbr hc hq hr hcc ht htl hts hp his hsz hv ho
  by_cases hlt : cc < least
  · go_enter Tryz.func62, Tryz.ntmps62
    go_wp2_with fail
    refine (HC.out _ (b_new _ _)).mono ?_; rintro e w1 ⟨rfl, hb1⟩
    obtain ⟨c1, d1⟩ := bcell hb1
    go_wp2_with fail
    refine (HQ.out _).mono ?_; rintro e w2 ⟨rfl, rfl⟩
    go_wp2_with fail
    go_ret
    exact ⟨str_inj (by rw [HR.out, if_pos (by omega)]; simp [ByteArray.data_append]), b_then hb1⟩
  · go_enter Tryz.func62, Tryz.ntmps62
    go_wp2_with fail
    refine (HC.out _ (b_new _ _)).mono ?_; rintro e w1 ⟨rfl, hb1⟩
    obtain ⟨c1, d1⟩ := bcell hb1
    go_wp2_with fail
    refine (HQ.out _).mono ?_; rintro e w2 ⟨rfl, rfl⟩
    go_wp2_with fail
    go_ret
    exact ⟨str_inj (by rw [HR.out, if_neg (by omega)]), b_then hb1⟩
theorem one_txt (l : List Ex) (h : l.length = 1) (h0 : 0 < l.length) : commas (l.map Ex.txt) = Ex.txt l[0] := by
  match l, h, h0 with
  | [x], _, _ => rfl
theorem three_txt (l : List Ex) (h : l.length = 3) (h0 : 0 < l.length) (h1 : 1 < l.length) (h2 : 2 < l.length) : commas (l.map Ex.txt) = Ex.txt l[0] ++ (([44, 32] : List UInt8) ++ (Ex.txt l[1] ++ (([44, 32] : List UInt8) ++ Ex.txt l[2]))) := by
  match l, h, h0, h1, h2 with
  | [x, y, z], _, _, _, _ => rfl
set_option maxHeartbeats 8000000 in
set_option maxRecDepth 100000 in
theorem exprText_any : ∀ x : Ex, x.okN → x.nodes ≤ 60 → RAt x := by
  refine Ex.ind fun d l ih => ?_
  intro hok hn d' A n c w his hv
  rw [is_mk] at his
  obtain ⟨rfl, rfl, ⟨hm, _⟩, his⟩ := his
  obtain ⟨hE, hl⟩ := (okN_mk d' l).1 hok
  obtain ⟨p1, p2, p3, p4, p5⟩ := nodeE_parts hE
  rw [nodes_mk] at hn
  have hxn : ∀ x ∈ l, x.nodes ≤ 60 := fun x hx => by have := nodes_mem hx; omega
  have hpr : ∀ x ∈ l, RAt x := fun x hx => ih x hx (hl x hx) (hxn x hx)
  have hsz : ∀ x ∈ l, (Ex.txt x).length ≤ 6000 := fun x hx => by have h1 := txt_len x (hl x hx); have h2 := hxn x hx; omega
  obtain ⟨sg, hsg⟩ : ∃ t : ByteArray, t = ⟨(csF d'.op).toArray⟩ := ⟨_, rfl⟩
  have hsl : sg.data.toList = csF d'.op := by rw [hsg]
  have hss : sg.size ≤ 4 := by show sg.data.toList.length ≤ 4; rw [hsl]; exact cs_len _
  obtain ⟨qb0, qb1⟩ := prec_bd d'.op
  obtain ⟨cc, hcc⟩ : ∃ cc, precF d'.op + 1 = cc := ⟨_, rfl⟩
  have hq := fun W => closeness_any d'.op p1 p2 W
  rw [hcc, ← hsg] at hq
  have hcb : 1 ≤ cc ∧ cc ≤ 7 := by omega
  rw [show Ex.txt (.mk d' l) = txtF d' (txtL l) from txt_mk d' l]
  obtain ⟨r, hr⟩ : ∃ r, txtF d' (txtL l) = r := ⟨_, rfl⟩
  rw [hr]
  have HR := Lib.hid hr
  have HP := Lib.hid (And.intro p3 (And.intro p4 p5))
  have HI := Lib.hid his
  have HV := Lib.hid hv
  have HPr := Lib.hid hpr
  have HSz := Lib.hid hsz
  have HSg := Lib.hid hsl
  have HCC := Lib.hid hcc
  have HL := Lib.hid hl
  have HQ := Lib.hid hq
  clear p3 p4 p5 his hv hpr hsz hsl hq hl hE hxn ih hsg hok hr hcc qb0 qb1
  unfold maxLen at hm
  go_enter Tryz.func29, Tryz.ntmps29
  go_upto_region 1 with fail
  go_cut [1, 3, 4] (fun s1 s3 s4 wx => ∃ B : Nat, s1 = .pointer (some ⟨B, 0, none⟩) ∧ s3 = .int .i64 cc ∧ s4 = .string sg ∧ B < wx.heap.size ∧ Below w.heap.size w wx ∧ wx.cell? ⟨B, 0, none⟩ = some (.int .i64 d'.op) ∧ wx.cell? ⟨B, 1, none⟩ = some (.int .i64 d'.k) ∧ wx.cell? ⟨B, 2, none⟩ = some (.int .i64 d'.n) ∧ wx.cell? ⟨B, 3, none⟩ = some (.string d'.s) ∧ wx.cell? ⟨B, 4, none⟩ = some (.string d'.nm) ∧ wx.cell? ⟨B, 5, none⟩ = some (.slice A l.length c))
  case first =>
    go_wp2_with fail
    refine (HQ.out _).mono ?_; rintro e w1 ⟨rfl, rfl⟩
    go_wp2_with fail
    go_meet
    exact ⟨_, rfl, rfl, rfl, by first | (simp; done) | (simp; omega), b_new _ _, by simp [go_sem], by simp [go_sem], by simp [go_sem], by simp [go_sem], by simp [go_sem], by simp [go_sem]⟩
  case rest =>
  obtain ⟨B, rfl, rfl, rfl, hB, hbw, m0, m1, m2, m3, m4, m5⟩ := hcut
  by_cases o1 : d'.op = 1
  · have t1 : (d'.op == 1) = true := beq_iff_eq.2 o1
    have hk : knownB d'.k d'.n d'.s.data.toList = true := by
      have := HP.out.2.1
      unfold vOk at this
      rw [if_pos o1] at this
      simp only [Bool.and_eq_true] at this
      exact this.1
    have hz : valE d'.k d'.n d'.s.data.toList = 0 := by
      unfold knownB at hk
      simp only [Bool.and_eq_true, decide_eq_true_eq] at hk
      exact hk.2
    have hc := ShowRef.text_good d'.k d'.n d'.s wc hz (HV.out.below hbw)
    have e : r = showL d'.k d'.n d'.s.data.toList := by rw [← HR.out]; unfold txtF; rw [if_pos o1]
    have HE := Lib.hid e
    have HC := Lib.hid hc
    clear hc hk hz e o1
    go_wp2_with fail
    refine HC.out.mono ?_; rintro e w1 ⟨rfl, hb1⟩
    go_wp2_with fail
    go_ret
    exact ⟨by rw [HE.out]; rfl, hbw.trans (hb1.mono hbw.size)⟩
  have t1 : (d'.op == 1) = false := beq_eq_false_iff_ne.2 o1
  by_cases o2 : d'.op = 2
  · have t2 : (d'.op == 2) = true := beq_iff_eq.2 o2
    have e : r = d'.nm.data.toList := by rw [← HR.out]; unfold txtF; rw [if_neg o1, if_pos o2]
    have HE := Lib.hid e
    clear e o1 o2
    go_wp2_with fail
    go_ret
    exact ⟨str_inj (by rw [HE.out]), hbw⟩
  have t2 : (d'.op == 2) = false := beq_eq_false_iff_ne.2 o2
  have hw2 : ∀ W, Below wc.heap.size wc W → Show.Pow W := fun W hb => HV.out.below (hbw.trans (hb.mono hbw.size))
  have hal : 0 < l.length ∧ l.length ≤ 3 ∧ (cc = 7 → d'.op = 17 ∨ d'.op = 18) ∧ (d'.op = 17 → l.length = 3 ∧ cc = 7) ∧ (d'.op = 18 → l.length = 1 ∧ cc = 7) ∧ (cc = 6 → d'.op = 3 ∨ d'.op = 4) ∧ (d'.op = 4 → cc = 6) ∧ (cc ≠ 6 → d'.op ≠ 18 → 1 < l.length) := by
    have h1 := HP.out.1
    have h2 := HCC.out
    rw [h1]
    have : ∀ k : Nat, k < 19 → k = 0 ∨ k = 1 ∨ k = 2 ∨ (0 < arity (k : Int) ∧ arity (k : Int) ≤ 3 ∧ (precF (k : Int) + 1 = 7 → (k : Int) = 17 ∨ (k : Int) = 18) ∧ ((k : Int) = 17 → arity (k : Int) = 3 ∧ precF (k : Int) + 1 = 7) ∧ ((k : Int) = 18 → arity (k : Int) = 1 ∧ precF (k : Int) + 1 = 7) ∧ (precF (k : Int) + 1 = 6 → (k : Int) = 3 ∨ (k : Int) = 4) ∧ ((k : Int) = 4 → precF (k : Int) + 1 = 6) ∧ (precF (k : Int) + 1 ≠ 6 → (k : Int) ≠ 18 → 1 < arity (k : Int))) := by decide
    obtain ⟨k, hk⟩ : ∃ k : Nat, d'.op = k := ⟨d'.op.toNat, by omega⟩
    rw [hk] at h2 p1 o1 o2 ⊢
    rcases this k (by omega) with h | h | h | h
    · omega
    · omega
    · omega
    · rw [h2] at h; exact h
  obtain ⟨l0, l3, l7, l17, l18, l6, l4, l1⟩ := hal
  obtain ⟨a, e0, B0, k0, c0, hA0, hat0, his0⟩ := HI.out 0 l0
  subst hA0
  obtain ⟨f0, f1, f2, f3, f4, f5⟩ := hat0.below hbw
  rw [Nat.zero_mul, show a.add 0 = a from rfl] at f0 f1 f2 f3 f4 f5
  have hsx0 := HSz.out _ (List.getElem_mem l0)
  have hok0 := okN_op (HL.out _ (List.getElem_mem l0))
  have hab : a.block < wc.heap.size := by have := cell_lt' f5; simpa [Addr.add] using this
  have hbr : ∀ (p : Int) (x : Int × List UInt8), (br p x).length ≤ x.2.length + 2 := fun p x => by unfold br; split <;> simp
  have i4 : (0 : Int) < (l.length : Int) := by omega
  have hbl : Below wc.heap.size wc wc := Below.refl _ _
  by_cases o18 : d'.op = 18
  · have t18 : (d'.op == 18) = true := beq_iff_eq.2 o18
    obtain ⟨t, ht⟩ : ∃ t : ByteArray, t = ⟨(Ex.txt l[0]).toArray⟩ := ⟨_, rfl⟩
    have htl : t.data.toList = Ex.txt l[0] := by rw [ht]
    have hts : t.size ≤ 10000 := by show t.data.toList.length ≤ _; rw [htl]; omega
    have hc := fun W (hb : Below wc.heap.size wc W) => HPr.out _ (List.getElem_mem l0) e0 B0 k0 c0 W (his0.below (hbw.trans (hb.mono hbw.size))) (hw2 W hb)
    rw [← ht] at hc
    have e : r = ([108, 101, 110, 40] : List UInt8) ++ (Ex.txt l[0] ++ [41]) := by
      rw [← HR.out]; unfold txtF; rw [if_neg o1, if_neg o2, if_pos (by have := HCC.out; have := (l18 o18).2; omega), txtL_map, List.map_map]
      show signF d'.op ++ (40 :: (commas (l.map Ex.txt) ++ [41])) = _
      rw [one_txt l (l18 o18).1 l0, o18]; rfl
    have HE := Lib.hid e
    have HC := Lib.hid hc
    have HT := Lib.hid htl
    have s1 := adds ⟨#[108, 101, 110, 40]⟩ t (by decide) (by omega)
    have s2 := adds (⟨#[108, 101, 110, 40]⟩ ++ t) ⟨#[41]⟩ (by rw [ByteArray.size_append]; show 4 + t.size ≤ _; omega) (by decide)
    clear hc ht htl e o1 o2 o18 l3 l7 l17 l18 l6 l4 l1 hw2 hbr hts hss hat0 his0 hsx0 hok0 hcb
    go_wp2_with fail
    refine (HC.out _ (Below.refl _ _)).mono ?_; rintro e w1 ⟨rfl, hb1⟩
    go_wp2_with fail
    go_ret
    exact ⟨str_inj (by rw [HE.out, ← HT.out]; simp [ByteArray.data_append]), hbw.trans (hb1.mono hbw.size)⟩
  have t18 : (d'.op == 18) = false := beq_eq_false_iff_ne.2 o18
  by_cases o17 : d'.op = 17
  · have t17 : (d'.op == 17) = true := beq_iff_eq.2 o17
    obtain ⟨hl3, h7⟩ := l17 o17
    have l1' : 1 < l.length := by omega
    have l2' : 2 < l.length := by omega
    obtain ⟨a', e1, B1, k1, c1, hA1, hat1, his1⟩ := HI.out 1 l1'
    obtain rfl : a = a' := by injection hA1
    obtain ⟨g0, g1, g2, g3, g4, g5⟩ := hat1.below hbw
    rw [Nat.one_mul] at g0 g1 g2 g3 g4 g5
    have hsx1 := HSz.out _ (List.getElem_mem l1')
    have hok1 := okN_op (HL.out _ (List.getElem_mem l1'))
    obtain ⟨a', e2, B2, k2, c2, hA2, hat2, his2⟩ := HI.out 2 l2'
    obtain rfl : a = a' := by injection hA2
    obtain ⟨z0, z1, z2, z3, z4, z5⟩ := hat2.below hbw
    rw [show 2 * 6 = 12 from rfl] at z0 z1 z2 z3 z4 z5
    have hsx2 := HSz.out _ (List.getElem_mem l2')
    have hok2 := okN_op (HL.out _ (List.getElem_mem l2'))
    obtain ⟨t, ht⟩ : ∃ t : ByteArray, t = ⟨(Ex.txt l[0]).toArray⟩ := ⟨_, rfl⟩
    have htl : t.data.toList = Ex.txt l[0] := by rw [ht]
    have hts : t.size ≤ 10000 := by show t.data.toList.length ≤ _; rw [htl]; omega
    have hc0 := fun W (hb : Below wc.heap.size wc W) => HPr.out _ (List.getElem_mem l0) e0 B0 k0 c0 W (his0.below (hbw.trans (hb.mono hbw.size))) (hw2 W hb)
    rw [← ht] at hc0
    have HC0 := Lib.hid hc0
    have HT0 := Lib.hid htl
    obtain ⟨u, hu⟩ : ∃ t : ByteArray, t = ⟨(Ex.txt l[1]).toArray⟩ := ⟨_, rfl⟩
    have hul : u.data.toList = Ex.txt l[1] := by rw [hu]
    have hus : u.size ≤ 10000 := by show u.data.toList.length ≤ _; rw [hul]; omega
    have hc1 := fun W (hb : Below wc.heap.size wc W) => HPr.out _ (List.getElem_mem l1') e1 B1 k1 c1 W (his1.below (hbw.trans (hb.mono hbw.size))) (hw2 W hb)
    rw [← hu] at hc1
    have HC1 := Lib.hid hc1
    have HT1 := Lib.hid hul
    obtain ⟨v, hv⟩ : ∃ t : ByteArray, t = ⟨(Ex.txt l[2]).toArray⟩ := ⟨_, rfl⟩
    have hvl : v.data.toList = Ex.txt l[2] := by rw [hv]
    have hvs : v.size ≤ 10000 := by show v.data.toList.length ≤ _; rw [hvl]; omega
    have hc2 := fun W (hb : Below wc.heap.size wc W) => HPr.out _ (List.getElem_mem l2') e2 B2 k2 c2 W (his2.below (hbw.trans (hb.mono hbw.size))) (hw2 W hb)
    rw [← hv] at hc2
    have HC2 := Lib.hid hc2
    have HT2 := Lib.hid hvl
    have e : r = ([105, 102, 40] : List UInt8) ++ (Ex.txt l[0] ++ (([44, 32] : List UInt8) ++ (Ex.txt l[1] ++ (([44, 32] : List UInt8) ++ (Ex.txt l[2] ++ [41]))))) := by
      rw [← HR.out]; unfold txtF; rw [if_neg o1, if_neg o2, if_pos (by have := HCC.out; omega), txtL_map, List.map_map]
      show signF d'.op ++ (40 :: (commas (l.map Ex.txt) ++ [41])) = _
      rw [three_txt l hl3 l0 l1' l2', o17, show signF 17 = [105, 102] from rfl]; simp
    have HE := Lib.hid e
    have hsz1 : (⟨#[105, 102, 40]⟩ : ByteArray).size = 3 := rfl
    have hsz2 : (⟨#[44, 32]⟩ : ByteArray).size = 2 := rfl
    have s1 := adds ⟨#[105, 102, 40]⟩ t (by decide) (by omega)
    have s2 := adds (⟨#[105, 102, 40]⟩ ++ t) ⟨#[44, 32]⟩ (by simp only [ByteArray.size_append]; omega) (by decide)
    have s3 := adds (⟨#[105, 102, 40]⟩ ++ t ++ ⟨#[44, 32]⟩) u (by simp only [ByteArray.size_append]; omega) (by omega)
    have s4 := adds (⟨#[105, 102, 40]⟩ ++ t ++ ⟨#[44, 32]⟩ ++ u) ⟨#[44, 32]⟩ (by simp only [ByteArray.size_append]; omega) (by decide)
    have s5 := adds (⟨#[105, 102, 40]⟩ ++ t ++ ⟨#[44, 32]⟩ ++ u ++ ⟨#[44, 32]⟩) v (by simp only [ByteArray.size_append]; omega) (by omega)
    have s6 := adds (⟨#[105, 102, 40]⟩ ++ t ++ ⟨#[44, 32]⟩ ++ u ++ ⟨#[44, 32]⟩ ++ v) ⟨#[41]⟩ (by simp only [ByteArray.size_append]; omega) (by decide)
    have HCells := Lib.hid (show ∀ w', Below wc.heap.size wc w' → w'.cell? ⟨B, 5, none⟩ = some (.slice (some a) l.length c) ∧ w'.cell? a = some (.int .i64 e0.op) ∧ w'.cell? ⟨a.block, a.off + 1, none⟩ = some (.int .i64 e0.k) ∧ w'.cell? ⟨a.block, a.off + 2, none⟩ = some (.int .i64 e0.n) ∧ w'.cell? ⟨a.block, a.off + 3, none⟩ = some (.string e0.s) ∧ w'.cell? ⟨a.block, a.off + 4, none⟩ = some (.string e0.nm) ∧ w'.cell? ⟨a.block, a.off + 5, none⟩ = some (.slice B0 k0 c0) ∧ w'.cell? ⟨a.block, a.off + 6, none⟩ = some (.int .i64 e1.op) ∧ w'.cell? ⟨a.block, a.off + 6 + 1, none⟩ = some (.int .i64 e1.k) ∧ w'.cell? ⟨a.block, a.off + 6 + 2, none⟩ = some (.int .i64 e1.n) ∧ w'.cell? ⟨a.block, a.off + 6 + 3, none⟩ = some (.string e1.s) ∧ w'.cell? ⟨a.block, a.off + 6 + 4, none⟩ = some (.string e1.nm) ∧ w'.cell? ⟨a.block, a.off + 6 + 5, none⟩ = some (.slice B1 k1 c1) ∧ w'.cell? ⟨a.block, a.off + 12, none⟩ = some (.int .i64 e2.op) ∧ w'.cell? ⟨a.block, a.off + 12 + 1, none⟩ = some (.int .i64 e2.k) ∧ w'.cell? ⟨a.block, a.off + 12 + 2, none⟩ = some (.int .i64 e2.n) ∧ w'.cell? ⟨a.block, a.off + 12 + 3, none⟩ = some (.string e2.s) ∧ w'.cell? ⟨a.block, a.off + 12 + 4, none⟩ = some (.string e2.nm) ∧ w'.cell? ⟨a.block, a.off + 12 + 5, none⟩ = some (.slice B2 k2 c2) from fun w' h => ⟨((bcell h).1 B 5 hB).trans m5, (h.cell (p := a) hab).trans f0, ((bcell h).1 _ _ hab).trans f1, ((bcell h).1 _ _ hab).trans f2, ((bcell h).1 _ _ hab).trans f3, ((bcell h).1 _ _ hab).trans f4, ((bcell h).1 _ _ hab).trans f5, (h.cell (p := a.add 6) hab).trans g0, ((bcell h).1 _ _ hab).trans g1, ((bcell h).1 _ _ hab).trans g2, ((bcell h).1 _ _ hab).trans g3, ((bcell h).1 _ _ hab).trans g4, ((bcell h).1 _ _ hab).trans g5, (h.cell (p := a.add 12) hab).trans z0, ((bcell h).1 _ _ hab).trans z1, ((bcell h).1 _ _ hab).trans z2, ((bcell h).1 _ _ hab).trans z3, ((bcell h).1 _ _ hab).trans z4, ((bcell h).1 _ _ hab).trans z5⟩)
    have i5 : (1 : Int) < (l.length : Int) := by omega
    have i6 : (2 : Int) < (l.length : Int) := by omega
    clear hc0 hc1 hc2 ht hu hv htl hul hvl e o1 o2 o17 o18 h7 l3 l7 l17 l18 l6 l4 l1 hl3 hw2 hbr hts hus hvs hss hat0 his0 hat1 his1 hat2 his2 hA1 hA2 hsx0 hok0 hsx1 hok1 hsx2 hok2 hcb hsz1 hsz2
    go_wp2_with fail
    go_region_held3 (fun w' => w'.cell? ⟨B, 5, none⟩ = some (.slice (some a) l.length c) ∧ w'.cell? a = some (.int .i64 e0.op) ∧ w'.cell? ⟨a.block, a.off + 1, none⟩ = some (.int .i64 e0.k) ∧ w'.cell? ⟨a.block, a.off + 2, none⟩ = some (.int .i64 e0.n) ∧ w'.cell? ⟨a.block, a.off + 3, none⟩ = some (.string e0.s) ∧ w'.cell? ⟨a.block, a.off + 4, none⟩ = some (.string e0.nm) ∧ w'.cell? ⟨a.block, a.off + 5, none⟩ = some (.slice B0 k0 c0) ∧ w'.cell? ⟨a.block, a.off + 6, none⟩ = some (.int .i64 e1.op) ∧ w'.cell? ⟨a.block, a.off + 6 + 1, none⟩ = some (.int .i64 e1.k) ∧ w'.cell? ⟨a.block, a.off + 6 + 2, none⟩ = some (.int .i64 e1.n) ∧ w'.cell? ⟨a.block, a.off + 6 + 3, none⟩ = some (.string e1.s) ∧ w'.cell? ⟨a.block, a.off + 6 + 4, none⟩ = some (.string e1.nm) ∧ w'.cell? ⟨a.block, a.off + 6 + 5, none⟩ = some (.slice B1 k1 c1) ∧ w'.cell? ⟨a.block, a.off + 12, none⟩ = some (.int .i64 e2.op) ∧ w'.cell? ⟨a.block, a.off + 12 + 1, none⟩ = some (.int .i64 e2.k) ∧ w'.cell? ⟨a.block, a.off + 12 + 2, none⟩ = some (.int .i64 e2.n) ∧ w'.cell? ⟨a.block, a.off + 12 + 3, none⟩ = some (.string e2.s) ∧ w'.cell? ⟨a.block, a.off + 12 + 4, none⟩ = some (.string e2.nm) ∧ w'.cell? ⟨a.block, a.off + 12 + 5, none⟩ = some (.slice B2 k2 c2)) (first | exact HCells.out _ hbl | exact HCells.out _ (b_drew hbl))
      (first | (go_at_call 29; (with_reducible refine (HC0.out _ ?_).mono ?_); (first | exact hbl | exact b_drew hbl); rintro e w3 ⟨rfl, hb3⟩; have hbl : Below wc.heap.size wc w3 := (by (first | (exact b_step hbl hb3) | (exact b_step (b_drew hbl) hb3)))) | (go_at_call 29; (with_reducible refine (HC1.out _ ?_).mono ?_); (first | exact hbl | exact b_drew hbl); rintro e w4 ⟨rfl, hb4⟩; have hbl : Below wc.heap.size wc w4 := (by (first | (exact b_step hbl hb4) | (exact b_step (b_drew hbl) hb4)))) | (go_at_call 29; (with_reducible refine (HC2.out _ ?_).mono ?_); (first | exact hbl | exact b_drew hbl); rintro e w5 ⟨rfl, hb5⟩; have hbl : Below wc.heap.size wc w5 := (by (first | (exact b_step hbl hb5) | (exact b_step (b_drew hbl) hb5)))))
    go_wp2_with fail
    go_ret
    exact ⟨str_inj (by rw [HE.out, ← HT0.out, ← HT1.out, ← HT2.out]; simp [ByteArray.data_append]), hbw.trans (hbl.mono hbw.size)⟩
  have t17 : (d'.op == 17) = false := beq_eq_false_iff_ne.2 o17
  by_cases o6 : cc = 6
  · have t6 : (cc == 6) = true := beq_iff_eq.2 o6
    obtain ⟨t, ht⟩ : ∃ t : ByteArray, t = ⟨(br 5 (l[0].d.op, Ex.txt l[0])).toArray⟩ := ⟨_, rfl⟩
    have htl : t.data.toList = br 5 (arg (txtL l) 0) := by rw [ht, txtL_at l 0 l0]
    have hts : t.size ≤ 10000 := by
      show t.data.toList.length ≤ _
      have := hbr 5 (arg (txtL l) 0); rw [htl]; rw [txtL_at l 0 l0] at this ⊢; dsimp only at this; omega
    have hc := fun W (hb : Below wc.heap.size wc W) => bracketed_any l[0] (HPr.out _ (List.getElem_mem l0)) hok0 (by omega) 5 6 rfl e0 B0 k0 c0 W (his0.below (hbw.trans (hb.mono hbw.size))) (hw2 W hb)
    rw [← ht] at hc
    have e : r = csF d'.op ++ br 5 (arg (txtL l) 0) := by
      have hq := HCC.out
      rw [← HR.out]; unfold txtF
      rw [if_neg o1, if_neg o2, if_neg (by omega)]
      rcases l6 o6 with h | h
      · rw [if_neg (by omega), if_pos (by omega), h]; rfl
      · rw [if_pos h, h]; rfl
    have HE := Lib.hid e
    have HC := Lib.hid hc
    have HT := Lib.hid htl
    have s1 := adds sg t (by omega) (by omega)
    clear hc ht htl e o1 o2 o17 o18 o6 l3 l7 l17 l18 l6 l4 l1 hw2 hbr hts hss hat0 his0 hsx0 hok0 hcb
    go_wp2_with fail
    refine (HC.out _ (Below.refl _ _)).mono ?_; rintro e w1 ⟨rfl, hb1⟩
    go_wp2_with fail
    go_ret
    exact ⟨str_inj (by rw [HE.out, ← HT.out, ← HSg.out]; simp [ByteArray.data_append]), hbw.trans (hb1.mono hbw.size)⟩
  have t6 : (cc == 6) = false := beq_eq_false_iff_ne.2 o6
  have l1' : 1 < l.length := l1 o6 o18
  have o4 : d'.op ≠ 4 := fun h => o6 (l4 h)
  have o7 : cc ≠ 7 := fun h => by have := l7 h; omega
  have hcs : csF d'.op = signF d'.op := by unfold csF; rw [if_neg (by omega), if_neg o4]
  have i5 : (1 : Int) < (l.length : Int) := by omega
  obtain ⟨a', e1, B1, k1, c1, hA1, hat1, his1⟩ := HI.out 1 l1'
  obtain rfl : a = a' := by injection hA1
  obtain ⟨g0, g1, g2, g3, g4, g5⟩ := hat1.below hbw
  rw [Nat.one_mul] at g0 g1 g2 g3 g4 g5
  have hsx1 := HSz.out _ (List.getElem_mem l1')
  have hok1 := okN_op (HL.out _ (List.getElem_mem l1'))
  have HCells := Lib.hid (show ∀ w', Below wc.heap.size wc w' → w'.cell? ⟨B, 5, none⟩ = some (.slice (some a) l.length c) ∧ w'.cell? a = some (.int .i64 e0.op) ∧ w'.cell? ⟨a.block, a.off + 1, none⟩ = some (.int .i64 e0.k) ∧ w'.cell? ⟨a.block, a.off + 2, none⟩ = some (.int .i64 e0.n) ∧ w'.cell? ⟨a.block, a.off + 3, none⟩ = some (.string e0.s) ∧ w'.cell? ⟨a.block, a.off + 4, none⟩ = some (.string e0.nm) ∧ w'.cell? ⟨a.block, a.off + 5, none⟩ = some (.slice B0 k0 c0) ∧ w'.cell? ⟨a.block, a.off + 6, none⟩ = some (.int .i64 e1.op) ∧ w'.cell? ⟨a.block, a.off + 6 + 1, none⟩ = some (.int .i64 e1.k) ∧ w'.cell? ⟨a.block, a.off + 6 + 2, none⟩ = some (.int .i64 e1.n) ∧ w'.cell? ⟨a.block, a.off + 6 + 3, none⟩ = some (.string e1.s) ∧ w'.cell? ⟨a.block, a.off + 6 + 4, none⟩ = some (.string e1.nm) ∧ w'.cell? ⟨a.block, a.off + 6 + 5, none⟩ = some (.slice B1 k1 c1) from fun w' h => ⟨((bcell h).1 B 5 hB).trans m5, (h.cell (p := a) hab).trans f0, ((bcell h).1 _ _ hab).trans f1, ((bcell h).1 _ _ hab).trans f2, ((bcell h).1 _ _ hab).trans f3, ((bcell h).1 _ _ hab).trans f4, ((bcell h).1 _ _ hab).trans f5, (h.cell (p := a.add 6) hab).trans g0, ((bcell h).1 _ _ hab).trans g1, ((bcell h).1 _ _ hab).trans g2, ((bcell h).1 _ _ hab).trans g3, ((bcell h).1 _ _ hab).trans g4, ((bcell h).1 _ _ hab).trans g5⟩)
  obtain ⟨pa, hpa⟩ : ∃ p, leftF d'.op = p := ⟨_, rfl⟩
  have e : r = br pa (arg (txtL l) 0) ++ (32 :: (csF d'.op ++ (32 :: br cc (arg (txtL l) 1)))) := by
    have hq := HCC.out
    rw [← HR.out, hcs, ← hpa, ← hq]; unfold txtF; rw [if_neg o1, if_neg o2, if_neg (by omega), if_neg o4, if_neg (by omega)]
  have HE := Lib.hid e
  obtain ⟨t, ht⟩ : ∃ t : ByteArray, t = ⟨(br pa (l[0].d.op, Ex.txt l[0])).toArray⟩ := ⟨_, rfl⟩
  have htl : t.data.toList = br pa (arg (txtL l) 0) := by rw [ht, txtL_at l 0 l0]
  have hts : t.size ≤ 10000 := by
    show t.data.toList.length ≤ _
    rw [ht]; show (br pa (l[0].d.op, Ex.txt l[0])).length ≤ _
    have := hbr pa (l[0].d.op, Ex.txt l[0]); dsimp only at this; omega
  obtain ⟨u, hu⟩ : ∃ t : ByteArray, t = ⟨(br cc (l[1].d.op, Ex.txt l[1])).toArray⟩ := ⟨_, rfl⟩
  have hul : u.data.toList = br cc (arg (txtL l) 1) := by rw [hu, txtL_at l 1 l1']
  have hus : u.size ≤ 10000 := by
    show u.data.toList.length ≤ _
    rw [hu]; show (br cc (l[1].d.op, Ex.txt l[1])).length ≤ _
    have := hbr cc (l[1].d.op, Ex.txt l[1]); dsimp only at this; omega
  have HT := Lib.hid htl
  have HU := Lib.hid hul
  have s1 := adds t ⟨#[32]⟩ (by omega) (by decide)
  have s2 := adds (t ++ ⟨#[32]⟩) sg (by rw [ByteArray.size_append]; show t.size + 1 ≤ _; omega) (by omega)
  have s3 := adds (t ++ ⟨#[32]⟩ ++ sg) ⟨#[32]⟩ (by rw [ByteArray.size_append, ByteArray.size_append]; show t.size + 1 + sg.size ≤ _; omega) (by decide)
  have s4 := adds (t ++ ⟨#[32]⟩ ++ sg ++ ⟨#[32]⟩) u (by rw [ByteArray.size_append, ByteArray.size_append, ByteArray.size_append]; show t.size + 1 + sg.size + 1 ≤ _; omega) (by omega)
  have hwq : IntKind.i64.wrap (cc + 1) = cc + 1 := IntWalk.i64_in _ (by omega)
  have hc := fun (least : Int) (hp : least = pa + 1) W (hb : Below wc.heap.size wc W) => bracketed_any l[0] (HPr.out _ (List.getElem_mem l0)) hok0 (by omega) pa least hp e0 B0 k0 c0 W (his0.below (hbw.trans (hb.mono hbw.size))) (hw2 W hb)
  have hd := fun W (hb : Below wc.heap.size wc W) => bracketed_any l[1] (HPr.out _ (List.getElem_mem l1')) hok1 (by omega) cc (cc + 1) rfl e1 B1 k1 c1 W (his1.below (hbw.trans (hb.mono hbw.size))) (hw2 W hb)
  rw [← ht] at hc
  rw [← hu] at hd
  by_cases o3 : cc = 3
  · have t3 : (cc == 3) = true := beq_iff_eq.2 o3
    have hc := hc 4 (by rw [← hpa]; unfold leftF; have := HCC.out; rw [if_pos (by omega)]; omega)
    have hd : ∀ W, Below wc.heap.size wc W → _ := hd
    rw [show cc + 1 = 4 by omega] at hd
    have HC := Lib.hid hc
    have HD := Lib.hid hd
    clear hc hd ht hu htl hul e o1 o2 o3 o4 o6 o7 o17 o18 l1 l3 l4 l6 l7 l17 l18 hw2 hbr hts hus hss hat0 his0 hat1 his1 hA1 hsx0 hok0 hsx1 hok1 hcb hcs hpa hwq
    go_wp2_with fail
    go_region_held3 (fun w' => w'.cell? ⟨B, 5, none⟩ = some (.slice (some a) l.length c) ∧ w'.cell? a = some (.int .i64 e0.op) ∧ w'.cell? ⟨a.block, a.off + 1, none⟩ = some (.int .i64 e0.k) ∧ w'.cell? ⟨a.block, a.off + 2, none⟩ = some (.int .i64 e0.n) ∧ w'.cell? ⟨a.block, a.off + 3, none⟩ = some (.string e0.s) ∧ w'.cell? ⟨a.block, a.off + 4, none⟩ = some (.string e0.nm) ∧ w'.cell? ⟨a.block, a.off + 5, none⟩ = some (.slice B0 k0 c0) ∧ w'.cell? ⟨a.block, a.off + 6, none⟩ = some (.int .i64 e1.op) ∧ w'.cell? ⟨a.block, a.off + 6 + 1, none⟩ = some (.int .i64 e1.k) ∧ w'.cell? ⟨a.block, a.off + 6 + 2, none⟩ = some (.int .i64 e1.n) ∧ w'.cell? ⟨a.block, a.off + 6 + 3, none⟩ = some (.string e1.s) ∧ w'.cell? ⟨a.block, a.off + 6 + 4, none⟩ = some (.string e1.nm) ∧ w'.cell? ⟨a.block, a.off + 6 + 5, none⟩ = some (.slice B1 k1 c1)) (first | exact HCells.out _ hbl | exact HCells.out _ (b_drew hbl))
      (first | (go_at_call 62; (with_reducible refine (HC.out _ ?_).mono ?_); (first | exact hbl | exact b_drew hbl); rintro e w4 ⟨rfl, hb4⟩; have hbl : Below wc.heap.size wc w4 := (by (first | (exact b_step hbl hb4) | (exact b_step (b_drew hbl) hb4)))) | (go_at_call 62; (with_reducible refine (HD.out _ ?_).mono ?_); (first | exact hbl | exact b_drew hbl); rintro e w5 ⟨rfl, hb5⟩; have hbl : Below wc.heap.size wc w5 := (by (first | (exact b_step hbl hb5) | (exact b_step (b_drew hbl) hb5)))))
    go_wp2_with fail
    go_ret
    exact ⟨str_inj (by rw [HE.out, ← HT.out, ← HU.out, ← HSg.out]; simp [ByteArray.data_append]), hbw.trans (hbl.mono hbw.size)⟩
  have t3 : (cc == 3) = false := beq_eq_false_iff_ne.2 o3
  have hc := hc cc (by rw [← hpa]; unfold leftF; have := HCC.out; rw [if_neg (by omega)]; omega)
  have HC := Lib.hid hc
  have HD := Lib.hid hd
  clear hc hd ht hu htl hul e o1 o2 o3 o4 o6 o7 o17 o18 l1 l3 l4 l6 l7 l17 l18 hw2 hbr hts hus hss hat0 his0 hat1 his1 hA1 hsx0 hok0 hsx1 hok1 hcb hcs hpa
  go_wp2_with fail
  go_region_held3 (fun w' => w'.cell? ⟨B, 5, none⟩ = some (.slice (some a) l.length c) ∧ w'.cell? a = some (.int .i64 e0.op) ∧ w'.cell? ⟨a.block, a.off + 1, none⟩ = some (.int .i64 e0.k) ∧ w'.cell? ⟨a.block, a.off + 2, none⟩ = some (.int .i64 e0.n) ∧ w'.cell? ⟨a.block, a.off + 3, none⟩ = some (.string e0.s) ∧ w'.cell? ⟨a.block, a.off + 4, none⟩ = some (.string e0.nm) ∧ w'.cell? ⟨a.block, a.off + 5, none⟩ = some (.slice B0 k0 c0) ∧ w'.cell? ⟨a.block, a.off + 6, none⟩ = some (.int .i64 e1.op) ∧ w'.cell? ⟨a.block, a.off + 6 + 1, none⟩ = some (.int .i64 e1.k) ∧ w'.cell? ⟨a.block, a.off + 6 + 2, none⟩ = some (.int .i64 e1.n) ∧ w'.cell? ⟨a.block, a.off + 6 + 3, none⟩ = some (.string e1.s) ∧ w'.cell? ⟨a.block, a.off + 6 + 4, none⟩ = some (.string e1.nm) ∧ w'.cell? ⟨a.block, a.off + 6 + 5, none⟩ = some (.slice B1 k1 c1)) (first | exact HCells.out _ hbl | exact HCells.out _ (b_drew hbl))
    (first | (go_at_call 62; (with_reducible refine (HC.out _ ?_).mono ?_); (first | exact hbl | exact b_drew hbl); rintro e w4 ⟨rfl, hb4⟩; have hbl : Below wc.heap.size wc w4 := (by (first | (exact b_step hbl hb4) | (exact b_step (b_drew hbl) hb4)))) | (go_at_call 62; (with_reducible refine (HD.out _ ?_).mono ?_); (first | exact hbl | exact b_drew hbl); rintro e w5 ⟨rfl, hb5⟩; have hbl : Below wc.heap.size wc w5 := (by (first | (exact b_step hbl hb5) | (exact b_step (b_drew hbl) hb5)))))
  go_wp2_with fail
  go_ret
  exact ⟨str_inj (by rw [HE.out, ← HT.out, ← HU.out, ← HSg.out]; simp [ByteArray.data_append]), hbw.trans (hbl.mono hbw.size)⟩
end Go.Proofs.YtdefaeieiaegaaaGreatDoor.PrR
namespace Go.Proofs.YtdefaeieiaegaaaGreatDoor.ExR
open Go.RowKit
open ValM LexM ExM Kit ExL ExN
set_option linter.unusedVariables false
set_option maxHeartbeats 1000000 in
theorem refSize_any : ∀ (x : Ex) (d : Nd) (A : Option Addr) (n c : Nat) (w : World), x.nodes ≤ 1000000000000 → Is w x d A n →
    Calls Tryz.prog 167 #[.agg #[.int .i64 d.op, .int .i64 d.k, .int .i64 d.n, .string d.s, .string d.nm, .slice A n c]] w fun e w' => e = .returned (.tuple #[.int .i64 (x.nodes : Int), .int .i64 (x.depth : Int)]) ∧ Below w.heap.size w w' := by
  refine Ex.ind fun d l ih => ?_
  intro d' A n c w hx his
  rw [is_mk] at his
  obtain ⟨rfl, rfl, ⟨hm, _⟩, his⟩ := his
  have hlen := len_nodesL l
  have hdn := depth_le_nodes (Ex.mk d' l)
  rw [depth_mk] at hdn
  rw [nodes_mk] at hx hdn
  obtain ⟨N, hN⟩ : ∃ N, nodesL l = N := ⟨_, rfl⟩
  obtain ⟨D, hD⟩ : ∃ D, depthL l = D := ⟨_, rfl⟩
  have e1 : ((Ex.mk d' l).nodes : Int) = ((1 + N : Nat) : Int) := by rw [nodes_mk, hN]
  have e2 : ((Ex.mk d' l).depth : Int) = ((D + 1 : Nat) : Int) := by rw [depth_mk, hD]
  rw [e1, e2]
  rw [hN] at hx hdn hlen
  rw [hD] at hdn
  clear e1 e2
  have HN := Lib.hid hN
  have HD := Lib.hid hD
  have HS := Lib.hid his
  have HI := Lib.hid ih
  clear hN hD his ih
  unfold maxLen at hm
  go_enter Tryz.func167, Tryz.ntmps167
  go_wp2_with fail
  go_loopw [4, 5, 6] (fun cnt dp i wr => ∃ (k p q : Nat), i = .int .i64 k ∧ k ≤ l.length ∧ Below (w.heap.size + 1) (w.alloc (.cells #[.int .i64 d'.op, .int .i64 d'.k, .int .i64 d'.n, .string d'.s, .string d'.nm, .slice A l.length c] 50)) wr ∧ cnt = .int .i64 (p : Int) ∧ dp = .int .i64 (q : Int) ∧ p = 1 + nodesL (l.take k) ∧ q = depthL (l.take k)) (fun _ _ i _ => l.length - (intOf i).toNat)
  case atStart => exact ⟨0, 1, 0, rfl, Nat.zero_le _, Below.refl _ _, rfl, rfl, by simp [nodesL_nil], by simp [depthL_nil]⟩
  case round =>
    obtain ⟨k, p, q, rfl, hk, hb, rfl, rfl, hp, hq⟩ := hrel
    have hpb : p ≤ 1 + N := by rw [hp, ← HN.out]; have := nodesL_take l k; omega
    have hqb : q ≤ D := by rw [hq, ← HD.out]; exact depthL_take l k
    have HP := Lib.hid hp
    have HQ := Lib.hid hq
    clear hp hq
    have hcell := hb.cell (p := ⟨w.heap.size, 5, none⟩) (by simp)
    have hbw : Below w.heap.size w wr := (b_new w _).trans (hb.mono (by omega))
    by_cases hlt : k < l.length
    · obtain ⟨a, d2, B, m, c2, rfl, hat, hi⟩ := HS.out k hlt
      obtain ⟨h0, h1, h2, h3, h4, h5⟩ := hat.below hbw
      have hi2 := hi.below hbw
      have hxn : l[k].nodes ≤ N := by rw [← HN.out]; exact nodes_mem (List.getElem_mem _)
      have hxd : l[k].depth ≤ D := by rw [← HD.out]; exact depth_mem (List.getElem_mem _)
      obtain ⟨s, hs⟩ : ∃ s, l[k].nodes = s := ⟨_, rfl⟩
      obtain ⟨t, ht⟩ : ∃ t, l[k].depth = t := ⟨_, rfl⟩
      have hp2 : p + s = 1 + nodesL (l.take (k + 1)) := by rw [nodesL_at l k hlt, HP.out, hs]; omega
      have hq2 : max q t = depthL (l.take (k + 1)) := by rw [depthL_at l k hlt, HQ.out, ht]
      have hpb2 : p + s ≤ 1 + N := by rw [hp2, ← HN.out]; have := nodesL_take l (k + 1); omega
      have hc := HI.out _ (List.getElem_mem hlt) d2 B m c2 _ (by omega) hi2
      rw [hs, ht] at hc
      rw [hs] at hxn
      rw [ht] at hxd
      have HC := Lib.hid hc
      have HP2 := Lib.hid hp2
      have HQ2 := Lib.hid hq2
      have HB := Lib.hid hb
      clear hc hp2 hq2 hs ht hi hi2 hat hb hbw
      go_wp2_with fail
      refine HC.out.mono ?_; rintro e w2 ⟨rfl, hb2⟩
      have hs2 := HB.out.size
      simp only [World.size_alloc] at hs2
      have hb3 : Below (w.heap.size + 1) (w.alloc (.cells #[.int .i64 d'.op, .int .i64 d'.k, .int .i64 d'.n, .string d'.s, .string d'.nm, .slice (some a) l.length c] 50)) w2 := HB.out.trans (hb2.mono hs2)
      have HB3 := Lib.hid hb3
      clear hb2 hb3 hcell
      by_cases hqt : q < t
      · have e3 : max q t = t := Nat.max_eq_right (by omega)
        rw [e3] at HQ2
        have t1 : (q : Int) < (t : Int) := by omega
        clear e3
        go_wp2_with fail
        go_roundw
        case rel => exact ⟨k + 1, p + s, t, by go_num, by omega, HB3.out, by go_num, rfl, HP2.out, HQ2.out⟩
        case measure => simp [intOf]; omega
      · have e3 : max q t = q := Nat.max_eq_left (by omega)
        rw [e3] at HQ2
        have t1 : ¬ (q : Int) < (t : Int) := by omega
        clear e3
        go_wp2_with fail
        go_roundw
        case rel => exact ⟨k + 1, p + s, q, by go_num, by omega, HB3.out, by go_num, rfl, HP2.out, HQ2.out⟩
        case measure => simp [intOf]; omega
    · have hkl : k = l.length := by omega
      have hp2 : p = 1 + N := by rw [HP.out, hkl, List.take_length, HN.out]
      have hq2 : q = D := by rw [HQ.out, hkl, List.take_length, HD.out]
      have HP2 := Lib.hid hp2
      have HQ2 := Lib.hid hq2
      clear hkl hp2 hq2
      go_wp2_with fail
      go_ret2
      exact ⟨by rw [HP2.out, HQ2.out]; rfl, hbw⟩
theorem argsOf_any (op : Int) (w : World) : Calls Tryz.prog 198 #[.int .i64 op] w fun e w' => e = .returned (.int .i64 (arity op : Int)) ∧ w = w' := by
  by_cases h1 : op = 1
  · subst h1
    go_enter Tryz.func198, Tryz.ntmps198
    go_wp2
    go_ret
    exact ⟨rfl, rfl⟩
  by_cases h2 : op = 2
  · subst h2
    go_enter Tryz.func198, Tryz.ntmps198
    go_wp2
    go_ret
    exact ⟨rfl, rfl⟩
  by_cases h3 : op = 3
  · subst h3
    go_enter Tryz.func198, Tryz.ntmps198
    go_wp2
    go_ret
    exact ⟨rfl, rfl⟩
  by_cases h4 : op = 4
  · subst h4
    go_enter Tryz.func198, Tryz.ntmps198
    go_wp2
    go_ret
    exact ⟨rfl, rfl⟩
  by_cases h5 : op = 18
  · subst h5
    go_enter Tryz.func198, Tryz.ntmps198
    go_wp2
    go_ret
    exact ⟨rfl, rfl⟩
  by_cases h6 : op = 17
  · subst h6
    go_enter Tryz.func198, Tryz.ntmps198
    go_wp2
    go_ret
    exact ⟨rfl, rfl⟩
  have e : arity op = 2 := by unfold arity; rw [if_neg (by omega), if_neg (by omega), if_neg (by omega)]
  rw [e]
  have t1 : (op == 1) = false := beq_eq_false_iff_ne.2 h1
  have t2 : (op == 2) = false := beq_eq_false_iff_ne.2 h2
  have t3 : (op == 3) = false := beq_eq_false_iff_ne.2 h3
  have t4 : (op == 4) = false := beq_eq_false_iff_ne.2 h4
  have t5 : (op == 18) = false := beq_eq_false_iff_ne.2 h5
  have t6 : (op == 17) = false := beq_eq_false_iff_ne.2 h6
  clear h1 h2 h3 h4 h5 h6 e
  go_enter Tryz.func198, Tryz.ntmps198
  go_wp2
  go_ret
  exact ⟨rfl, rfl⟩
/-- A node is right, as the reference says it. -/
theorem good_const {k n : Int} {s nm : ByteArray} {m : Nat} : nodeE ⟨1, k, n, s, nm⟩ m = if (decide (m = 0) && nm.data.toList.isEmpty && knownB k n s.data.toList && (!decide (k = 1) || decide (0 ≤ n))) = true then 0 else 3 := by
  unfold nodeE vOk nmOk
  rw [if_neg (show ¬ ((1 : Int) < 1 ∨ 18 < (1 : Int)) by omega), if_pos rfl, if_neg (show ¬ (1 : Int) = 2 by omega)]
  rw [show arity 1 = 0 from rfl]
  simp only [Bool.and_eq_true, Bool.or_eq_true, decide_eq_true_eq, Bool.not_eq_true', decide_eq_false_iff_not, Bool.and_eq_false_imp]
  congr 1
  apply propext
  constructor
  · rintro ⟨h1, ⟨h2, h3⟩, h4⟩; exact ⟨⟨⟨h1, h4⟩, h2⟩, by by_cases h : k = 1; right; have := h3 h; omega; left; exact h⟩
  · rintro ⟨⟨⟨h1, h4⟩, h2⟩, h3⟩; exact ⟨h1, ⟨h2, fun h => by rcases h3 with h5 | h5; exact absurd h h5; omega⟩, h4⟩
theorem good_other {op k n : Int} {s nm : ByteArray} {m : Nat} (h1 : ¬ op < 1) (h2 : ¬ 18 < op) (h3 : op ≠ 1) : nodeE ⟨op, k, n, s, nm⟩ m = if (decide (m = arity op) && (decide (k = 0) && decide (n = 0) && s.data.toList.isEmpty) && (if op = 2 then decide (LexB.nameE nm.data.toList = 0) else nm.data.toList.isEmpty)) = true then 0 else 3 := by
  unfold nodeE vOk nmOk
  rw [if_neg (show ¬ (op < 1 ∨ 18 < op) by omega), if_neg h3, nmB_iff]
  simp only [Bool.and_eq_true, decide_eq_true_eq, and_assoc]
theorem ifz (b : Bool) : decide ((if b = true then (0 : Int) else 3) = 0) = b := by cases b <;> rfl
set_option maxHeartbeats 4000000 in
set_option maxRecDepth 100000 in
theorem part_any : ∀ (x : Ex) (d : Nd) (A : Option Addr) (n c : Nat) (w : World), Is w x d A n →
    Calls Tryz.prog 168 #[.agg #[.int .i64 d.op, .int .i64 d.k, .int .i64 d.n, .string d.s, .string d.nm, .slice A n c]] w fun e w' => e = .returned (.int .i64 (firstE x.pre)) ∧ Below w.heap.size w w' := by
  refine Ex.ind fun d l ih => ?_
  intro d' A m c w his
  rw [is_mk] at his
  obtain ⟨rfl, rfl, ⟨hm, hs1, hs2⟩, his⟩ := his
  obtain ⟨op, k, n, s, nm⟩ := d'
  obtain ⟨R, hR⟩ : ∃ R, firstE (Ex.mk ⟨op, k, n, s, nm⟩ l).pre = R := ⟨_, rfl⟩
  rw [hR]
  rw [firstE_mk] at hR
  dsimp only at hs1 hs2 ⊢
  have HR := Lib.hid hR
  have HS := Lib.hid his
  have HI := Lib.hid ih
  clear hR his ih
  have hm2 := hm
  unfold maxLen at hm
  by_cases hop : op < 1 ∨ 18 < op
  · have e : nodeE ⟨op, k, n, s, nm⟩ l.length = 2 := by unfold nodeE; rw [if_pos hop]
    obtain rfl : R = 2 := by rw [← HR.out, e, if_neg (by decide)]
    clear e
    rcases hop with h | h
    · have t1 : decide (op < 1) = true := decide_eq_true h
      go_enter Tryz.func168, Tryz.ntmps168
      go_wp2_with fail
      go_ret
      exact ⟨rfl, b_new _ _⟩
    · have t1 : ¬ op < 1 := by omega
      go_enter Tryz.func168, Tryz.ntmps168
      go_wp2_with fail
      go_ret
      exact ⟨rfl, b_new _ _⟩
  · have t1 : ¬ op < 1 := by omega
    have t2 : ¬ 18 < op := by omega
    obtain ⟨G, hG⟩ : ∃ G : Bool, decide (nodeE ⟨op, k, n, s, nm⟩ l.length = 0) = G := ⟨_, rfl⟩
    obtain ⟨kb, hkb⟩ : ∃ b, knownB k n s.data.toList = b := ⟨_, rfl⟩
    obtain ⟨ln, hln⟩ : ∃ b, LexB.nameE nm.data.toList = b := ⟨_, rfl⟩
    have hkn := fun W => ValRef.known_any k n s W
    have hlx := fun W => LexB.refName_any nm W hs2
    rw [hkb] at hkn
    rw [hln] at hlx
    have HKn := Lib.hid hkn
    have HLx := Lib.hid hlx
    have HKb := Lib.hid hkb
    have HLn := Lib.hid hln
    clear hkn hlx hkb hln
    have har := fun W => (argsOf_any op W).mono (fun e w' h => (⟨h.1, h.2.symm⟩ : e = .returned (.int .i64 (arity op : Int)) ∧ w' = W))
    obtain ⟨q, hq⟩ : ∃ q, arity op = q := ⟨_, rfl⟩
    rw [hq] at har
    have HA := Lib.hid har
    have HG := Lib.hid hG
    have HQ := Lib.hid hq
    obtain ⟨gm, t3⟩ : ∃ gm : Bool, ((l.length : Int) == (q : Int)) = gm := ⟨_, rfl⟩
    clear har hG hq hop
    go_enter Tryz.func168, Tryz.ntmps168
    go_wp2_with fail
    go_quiet ((go_at_call 198; exact Calls.quiet_of_same (HA.out _)))
    go_upto_if 24 with (fail)
    go_cut [0, 3] (fun _ g wx => g = .bool G ∧ Below (w.heap.size + 1) (w.alloc (.cells #[.int .i64 op, .int .i64 k, .int .i64 n, .string s, .string nm, .slice A l.length c] 50)) wx)
    case first =>
      by_cases ho : op = 1
      · have t4 : (op == 1) = true := beq_iff_eq.2 ho
        have hgood := good_const (k := k) (n := n) (s := s) (nm := nm) (m := l.length)
        have hG2 := HG.out
        rw [ho, hgood, HKb.out, ifz] at hG2
        have t5 : arity op = 0 := by rw [ho]; rfl
        have hgm : gm = decide (l.length = 0) := by rw [← t3, ← HQ.out, t5, Bool.eq_iff_iff]; simp
        rw [← hgm, ← ByteArray.toList_eq] at hG2
        have HG3 := Lib.hid hG2
        clear hG2 hgood t5 ho hgm
        cases gm
        · go_wp2_with (go_at_call 199; refine (HKn.out _).mono ?_; rintro e w1 ⟨rfl, hb1⟩; obtain ⟨c1, d1⟩ := bcell hb1)
          all_goals
            go_meet
            subst_vars
            first
              | exact ⟨by rw [← HG3.out]; simp [*], (b_undrewN hb1).mono (by simp)⟩
              | exact ⟨by rw [← HG3.out]; simp [*], b_drewN (Below.refl _ _) _⟩
        · by_cases hne : nm.toList = []
          · cases kb
            · go_wp2_with (go_at_call 199; refine (HKn.out _).mono ?_; rintro e w1 ⟨rfl, hb1⟩; obtain ⟨c1, d1⟩ := bcell hb1)
              all_goals
                go_meet
                subst_vars
                first
                  | exact ⟨by rw [← HG3.out]; simp [*], (b_undrewN hb1).mono (by simp)⟩
                  | exact ⟨by rw [← HG3.out]; simp [*], b_drewN (Below.refl _ _) _⟩
            · by_cases hk : k = 1
              · have t6 : (k != 1) = false := by rw [hk]; rfl
                have t8 : decide (k = 1) = true := decide_eq_true hk
                rw [t8] at HG3
                clear hk t8
                by_cases hn : 0 ≤ n
                · go_wp2_with (go_at_call 199; refine (HKn.out _).mono ?_; rintro e w1 ⟨rfl, hb1⟩; obtain ⟨c1, d1⟩ := bcell hb1)
                  all_goals
                    go_meet
                    subst_vars
                    first
                      | exact ⟨by rw [← HG3.out]; simp [*], (b_undrewN hb1).mono (by simp)⟩
                      | exact ⟨by rw [← HG3.out]; simp [*], b_drewN (Below.refl _ _) _⟩
                · go_wp2_with (go_at_call 199; refine (HKn.out _).mono ?_; rintro e w1 ⟨rfl, hb1⟩; obtain ⟨c1, d1⟩ := bcell hb1)
                  all_goals
                    go_meet
                    subst_vars
                    first
                      | exact ⟨by rw [← HG3.out]; simp [*], (b_undrewN hb1).mono (by simp)⟩
                      | exact ⟨by rw [← HG3.out]; simp [*], b_drewN (Below.refl _ _) _⟩
              · have t6 : (k != 1) = true := bne_iff_ne.2 hk
                have t8 : decide (k = 1) = false := decide_eq_false hk
                rw [t8] at HG3
                clear hk t8
                go_wp2_with (go_at_call 199; refine (HKn.out _).mono ?_; rintro e w1 ⟨rfl, hb1⟩; obtain ⟨c1, d1⟩ := bcell hb1)
                all_goals
                  go_meet
                  subst_vars
                  first
                    | exact ⟨by rw [← HG3.out]; simp [*], (b_undrewN hb1).mono (by simp)⟩
                    | exact ⟨by rw [← HG3.out]; simp [*], b_drewN (Below.refl _ _) _⟩
          · go_wp2_with (go_at_call 199; refine (HKn.out _).mono ?_; rintro e w1 ⟨rfl, hb1⟩; obtain ⟨c1, d1⟩ := bcell hb1)
            all_goals
              go_meet
              subst_vars
              first
                | exact ⟨by rw [← HG3.out]; simp [*], (b_undrewN hb1).mono (by simp)⟩
                | exact ⟨by rw [← HG3.out]; simp [*], b_drewN (Below.refl _ _) _⟩
      · have t4 : (op == 1) = false := beq_eq_false_iff_ne.2 ho
        have hgood := good_other (k := k) (n := n) (s := s) (nm := nm) (m := l.length) (by omega) (by omega) ho
        have hG2 := HG.out
        rw [hgood, ifz, HLn.out, HQ.out] at hG2
        have hgm : gm = decide (l.length = q) := by rw [← t3, Bool.eq_iff_iff]; simp; omega
        rw [← hgm, ← ByteArray.toList_eq, ← ByteArray.toList_eq] at hG2
        have HG3 := Lib.hid hG2
        clear hG2 hgood ho hgm
        by_cases h2 : op = 2
        · have t6 : (op == 2) = true := beq_iff_eq.2 h2
          have t7 : (op != 2) = false := by rw [h2]; rfl
          rw [if_pos h2] at HG3
          clear h2
          cases gm
          · go_wp2_with (go_at_call 69; refine (HLx.out _).mono ?_; rintro e w1 ⟨rfl, hb1⟩; obtain ⟨c1, d1⟩ := bcell hb1)
            all_goals
              go_meet
              subst_vars
              first
                | exact ⟨by rw [← HG3.out]; simp [*], (b_undrewN hb1).mono (by simp)⟩
                | exact ⟨by rw [← HG3.out]; simp [*], b_drewN (Below.refl _ _) _⟩
          · go_wp2_with (go_at_call 69; refine (HLx.out _).mono ?_; rintro e w1 ⟨rfl, hb1⟩; obtain ⟨c1, d1⟩ := bcell hb1)
            all_goals
              go_meet
              subst_vars
              first
                | exact ⟨by rw [← HG3.out]; simp [*], (b_undrewN hb1).mono (by simp)⟩
                | exact ⟨by rw [← HG3.out]; simp [*], b_drewN (Below.refl _ _) _⟩
        · have t6 : (op == 2) = false := beq_eq_false_iff_ne.2 h2
          have t7 : (op != 2) = true := bne_iff_ne.2 h2
          rw [if_neg h2] at HG3
          clear h2
          cases gm
          · go_wp2_with (go_at_call 69; refine (HLx.out _).mono ?_; rintro e w1 ⟨rfl, hb1⟩; obtain ⟨c1, d1⟩ := bcell hb1)
            all_goals
              go_meet
              subst_vars
              first
                | exact ⟨by rw [← HG3.out]; simp [*], (b_undrewN hb1).mono (by simp)⟩
                | exact ⟨by rw [← HG3.out]; simp [*], b_drewN (Below.refl _ _) _⟩
          · go_wp2_with (go_at_call 69; refine (HLx.out _).mono ?_; rintro e w1 ⟨rfl, hb1⟩; obtain ⟨c1, d1⟩ := bcell hb1)
            all_goals
              go_meet
              subst_vars
              first
                | exact ⟨by rw [← HG3.out]; simp [*], (b_undrewN hb1).mono (by simp)⟩
                | exact ⟨by rw [← HG3.out]; simp [*], b_drewN (Below.refl _ _) _⟩
    case rest =>
      obtain ⟨rfl, hb⟩ := hcut
      have hcell := hb.cell (p := ⟨w.heap.size, 5, none⟩) (by simp)
      have hbw : Below w.heap.size w wc := (b_new w _).trans (hb.mono (by omega))
      have hE : nodeE ⟨op, k, n, s, nm⟩ l.length = 0 ∨ nodeE ⟨op, k, n, s, nm⟩ l.length = 3 := by
        unfold nodeE; rw [if_neg (by show ¬ (op < 1 ∨ 18 < op); omega)]; split
        · exact .inl rfl
        · exact .inr rfl
      cases G
      · have h0 : nodeE ⟨op, k, n, s, nm⟩ l.length ≠ 0 := of_decide_eq_false HG.out
        obtain rfl : R = 3 := by
          rw [← HR.out, if_neg h0]
          rcases hE with h | h
          · exact absurd h h0
          · exact h
        clear hE h0
        go_wp2_with fail
        go_ret
        exact ⟨rfl, hbw⟩
      · have h0 : nodeE ⟨op, k, n, s, nm⟩ l.length = 0 := of_decide_eq_true HG.out
        have hR2 : firstE (preL l) = R := by rw [← HR.out, if_pos h0]
        have HR2 := Lib.hid hR2
        have HB := Lib.hid hbw
        clear hE h0 hR2 hb hbw
        go_wp2_with fail
        go_loopw [81] (fun i wr => ∃ j : Nat, i = .int .i64 (j : Int) ∧ j ≤ l.length ∧ Below w.heap.size w wr ∧ firstE (preL (l.take j)) = 0) (fun i _ => l.length - (intOf i).toNat)
        case atStart => exact ⟨0, rfl, Nat.zero_le _, HB.out, by simp [preL_nil, firstE]⟩
        case round =>
          obtain ⟨j, rfl, hj, hbr, hfe⟩ := hrel
          have HFe := Lib.hid hfe
          clear hfe
          by_cases hlt : j < l.length
          · obtain ⟨a, d2, B, m2, c2, rfl, hat, hi⟩ := HS.out j hlt
            obtain ⟨h0, h1, h2, h3, h4, h5⟩ := hat.below hbr
            have hi2 := (hi.below hbr).alloc (.cells #[.int .i64 d2.op, .int .i64 d2.k, .int .i64 d2.n, .string d2.s, .string d2.nm, .slice B m2 c2] 50)
            obtain ⟨r, hr⟩ : ∃ r, firstE l[j].pre = r := ⟨_, rfl⟩
            have hc := HI.out _ (List.getElem_mem hlt) d2 B m2 c2 _ hi2
            rw [hr] at hc
            have hp2 : firstE (preL (l.take (j + 1))) = r := by rw [preL_at l j hlt, firstE_append, if_pos HFe.out, hr]
            have HC := Lib.hid hc
            have HP2 := Lib.hid hp2
            have HBr := Lib.hid hbr
            clear hc hp2 hr hi hi2 hat hbr
            go_wp2_with fail
            refine HC.out.mono ?_; rintro e w2 ⟨rfl, hb2⟩
            have hb3 : Below w.heap.size w w2 := HBr.out.trans ((b_then hb2).mono HBr.out.size)
            have HB3 := Lib.hid hb3
            clear hb2 hb3
            by_cases hr0 : r = 0
            · subst hr0
              go_wp2_with fail
              go_roundw
              case rel => exact ⟨j + 1, by go_num, by omega, HB3.out, HP2.out⟩
              case measure => simp [intOf]; omega
            · have t9 : (r != 0) = true := bne_iff_ne.2 hr0
              have hR3 : r = R := by
                rw [← HR2.out, show l = l.take (j + 1) ++ l.drop (j + 1) from (List.take_append_drop _ _).symm, preL_append, firstE_append, HP2.out, if_neg hr0]
              have HR3 := Lib.hid hR3
              clear hr0 hR3
              go_wp2_with fail
              go_ret
              exact ⟨ret_int HR3.out, HB3.out⟩
          · have hjl : j = l.length := by omega
            have hR3 : R = 0 := by rw [← HR2.out, ← HFe.out, hjl, List.take_length]
            have HR3 := Lib.hid hR3
            clear hjl hR3
            go_wp2_with fail
            go_ret
            exact ⟨ret_int HR3.out.symm, hbr⟩
theorem fault_any (x : Ex) (d : Nd) (A : Option Addr) (m c : Nat) (w : World) (hn : x.nodes ≤ 1000000000000) (his : Is w x d A m) :
    Calls Tryz.prog 119 #[.agg #[.int .i64 d.op, .int .i64 d.k, .int .i64 d.n, .string d.s, .string d.nm, .slice A m c]] w fun e w' => e = .returned (.int .i64 x.checkE) ∧ Below w.heap.size w w' := by
  obtain ⟨R, hR⟩ : ∃ R, x.checkE = R := ⟨_, rfl⟩
  rw [hR]
  unfold Ex.checkE at hR
  obtain ⟨N, hN⟩ : ∃ N, x.nodes = N := ⟨_, rfl⟩
  obtain ⟨D, hD⟩ : ∃ D, x.depth = D := ⟨_, rfl⟩
  obtain ⟨r, hr⟩ : ∃ r, firstE x.pre = r := ⟨_, rfl⟩
  have h1 := his.alloc (.cells #[.int .i64 d.op, .int .i64 d.k, .int .i64 d.n, .string d.s, .string d.nm, .slice A m c] 50)
  have c1 := refSize_any x d A m c _ hn h1
  have c2 := fun W (hb : Below (w.alloc (.cells #[.int .i64 d.op, .int .i64 d.k, .int .i64 d.n, .string d.s, .string d.nm, .slice A m c] 50)).heap.size (w.alloc (.cells #[.int .i64 d.op, .int .i64 d.k, .int .i64 d.n, .string d.s, .string d.nm, .slice A m c] 50)) W) => part_any x d A m c W (h1.below hb)
  rw [hN, hD] at c1
  rw [hN, hD, hr] at hR
  rw [hr] at c2
  rw [hN] at hn
  have hdn := depth_le_nodes x
  rw [hN, hD] at hdn
  have C1 := Lib.hid c1
  have C2 := Lib.hid c2
  clear c1 c2 h1 his hr hN hD
  by_cases hn6 : 60 < N
  · obtain rfl : R = 1 := by rw [← hR, if_pos hn6]
    clear hR
    have t1 : (60 : Int) < (N : Int) := by omega
    go_enter Tryz.func119, Tryz.ntmps119
    go_wp2_with fail
    refine C1.out.mono ?_; rintro e w1 ⟨rfl, hb1⟩
    go_wp2_with fail
    go_ret
    exact ⟨rfl, b_then hb1⟩
  · have t1 : ¬ (60 : Int) < (N : Int) := by omega
    by_cases hd : 12 < D
    · obtain rfl : R = 4 := by rw [← hR, if_neg hn6, if_pos hd]
      clear hR
      have t2 : (12 : Int) < (D : Int) := by omega
      go_enter Tryz.func119, Tryz.ntmps119
      go_wp2_with fail
      refine C1.out.mono ?_; rintro e w1 ⟨rfl, hb1⟩
      go_wp2_with fail
      go_ret
      exact ⟨rfl, b_then hb1⟩
    · obtain rfl : R = r := by rw [← hR, if_neg hn6, if_neg hd]
      clear hR
      have t2 : ¬ (12 : Int) < (D : Int) := by omega
      go_enter Tryz.func119, Tryz.ntmps119
      go_wp2_with fail
      refine C1.out.mono ?_; rintro e w1 ⟨rfl, hb1⟩
      have C3 := Lib.hid (C2.out _ hb1)
      obtain ⟨c1, d1⟩ := bcell hb1
      go_wp2_with fail
      refine C3.out.mono ?_; rintro e w2 ⟨rfl, hb2⟩
      go_wp2_with fail
      go_ret
      exact ⟨rfl, b_trans (b_then hb1) hb2⟩
end Go.Proofs.YtdefaeieiaegaaaGreatDoor.ExR
namespace Go.Proofs.YtdefaeieiaegaaaGreatDoor.PrT
open Go.RowKit
open ValM LexM ExM ShowM PrM Kit ExL ExN ExV GenL Prn
set_option linter.unusedVariables false
set_option maxHeartbeats 2000000 in
theorem print_any (x : Ex) (d : Nd) (A : Option Addr) (n c : Nat) (w : World) (his : Is w x d A n) (hv : Vars w) :
    Calls Tryz.prog 23 #[.agg #[.int .i64 d.op, .int .i64 d.k, .int .i64 d.n, .string d.s, .string d.nm, .slice A n c]] w fun e w' => e = .returned (.tuple #[.string ⟨(if x.checkE = 0 then Ex.txt x else []).toArray⟩, .int .i64 x.checkE]) ∧ Below w.heap.size w w' := by
  obtain ⟨R, hR⟩ : ∃ R, x.checkE = R := ⟨_, rfl⟩
  rw [hR]
  have hc := fun W (hb : Below w.heap.size w W) => ExC.check_any x d A n c W (his.below hb) (hv.below hb).tab
  rw [hR] at hc
  have HC := Lib.hid hc
  clear hc
  by_cases h0 : R = 0
  · subst h0
    obtain ⟨q1, q2, q3⟩ := checkE_zero hR
    have hp := fun W (hb : Below w.heap.size w W) => printed_any x q3 q1 d A n c W (his.below hb) (hv.below hb)
    obtain ⟨t, ht⟩ : ∃ t : ByteArray, t = ⟨(Ex.txt x).toArray⟩ := ⟨_, rfl⟩
    rw [← ht] at hp
    rw [if_pos rfl, ← ht]
    have HP := Lib.hid hp
    clear hp ht hR his hv q1 q2 q3
    go_enter Tryz.func23, Tryz.ntmps23
    go_wp2_with fail
    refine (HC.out _ (b_new _ _)).mono ?_; rintro e w1 ⟨rfl, hb1⟩
    obtain ⟨c1, d1⟩ := bcell hb1
    go_wp2_with fail
    refine (HP.out _ (b_then hb1)).mono ?_; rintro e w2 ⟨rfl, hb2⟩
    go_wp2_with fail
    go_ret2
    exact ⟨rfl, (b_then hb1).trans (hb2.mono (b_then hb1).size)⟩
  · rw [if_neg h0]
    have t1 : (R == 0) = false := beq_eq_false_iff_ne.2 h0
    clear hR h0 his hv
    go_enter Tryz.func23, Tryz.ntmps23
    go_wp2_with fail
    refine (HC.out _ (b_new _ _)).mono ?_; rintro e w1 ⟨rfl, hb1⟩
    go_wp2_with fail
    go_ret2
    exact ⟨rfl, b_then hb1⟩
end Go.Proofs.YtdefaeieiaegaaaGreatDoor.PrT
namespace Go.Proofs.YtdefaeieiaegaaaGreatDoor.PsM
open LexM ExM
def rwP (op : Nat) : NotTab.Rw := NotTab.rows.getD op ([], 0, 0)
/-- The operator of a precedence that a token is. -/
def opAt (q : Nat) (s : List UInt8) : Option Nat := (List.range 19).find? fun op => decide (3 ≤ op) && decide ((rwP op).2.1 = (q : Int)) && decide ((rwP op).1 = s)
def opN (op : Nat) (l : List Ex) : Ex := .mk ⟨(op : Int), 0, 0, ⟨#[]⟩, ⟨#[]⟩⟩ l
def trueB : List UInt8 := [116, 114, 117, 101]
def falseB : List UInt8 := [102, 97, 108, 115, 101]
/-- A formula of one token. -/
def leafN (t : Tk) : Option Ex :=
  if t.kind = 1 ∨ t.kind = 3 then some (.mk ⟨1, t.vk, t.n, ⟨t.t.toArray⟩, ⟨#[]⟩⟩ [])
  else if t.s = trueB then some (.mk ⟨1, 2, 1, ⟨#[]⟩, ⟨#[]⟩⟩ [])
  else if t.s = falseB then some (.mk ⟨1, 2, 0, ⟨#[]⟩, ⟨#[]⟩⟩ [])
  else if t.kind = 2 ∧ keyB t.s = false then some (.mk ⟨2, 0, 0, ⟨#[]⟩, ⟨t.s.toArray⟩⟩ [])
  else none
/-- What there is to do: a formula of at least a precedence; more operators of it behind a formula; more formulas of a list of n, its bracket open. -/
inductive Job where
  | form (q : Nat)
  | loop (q : Nat) (x : Ex)
  | list (n : Nat) (acc : List Ex)
/-- How it ends: formulas and the tokens that are left; or the tokens from the wrong one on. -/
inductive Out where
  | ok (l : List Ex) (r : List Tk)
  | bad (r : List Tk)
  | tired
def isNext (s : List UInt8) : List Tk → Bool
  | [] => false
  | t :: _ => decide (t.s = s)
def wrap (op : Nat) : Out → Out
  | .ok l r => .ok [opN op l] r
  | o => o
def run : Nat → Job → List Tk → Out
  | 0, _, _ => .tired
  | f + 1, .form q, ts =>
    if q = 5 then
      match ts with
      | [] => .bad []
      | t :: r =>
        match opAt 5 t.s with
        | some op => wrap op (run f (.form 5) r)
        | none =>
          if t.s = [40] then run f (.list 1 []) r
          else match opAt 6 t.s with
            | some op => if isNext [40] r then wrap op (run f (.list (arity op) []) r.tail) else .bad r
            | none => match leafN t with
              | some x => .ok [x] r
              | none => .bad (t :: r)
    else match run f (.form (q + 1)) ts with
      | .ok (x :: _) r => run f (.loop q x) r
      | o => o
  | f + 1, .loop q x, ts =>
    match ts with
    | [] => .ok [x] []
    | t :: r =>
      match opAt q t.s with
      | none => .ok [x] (t :: r)
      | some op => match run f (.form (q + 1)) r with
        | .ok (y :: _) r' => if q = 2 then .ok [opN op [x, y]] r' else run f (.loop q (opN op [x, y])) r'
        | o => o
  | f + 1, .list n acc, ts =>
    match run f (.form 0) ts with
    | .ok (x :: _) r =>
      if acc.length + 1 < n then (if isNext [44] r then run f (.list n (acc ++ [x])) r.tail else .bad r)
      else (if isNext [41] r then .ok (acc ++ [x]) r.tail else .bad r)
    | o => o
end Go.Proofs.YtdefaeieiaegaaaGreatDoor.PsM
namespace Go.Proofs.YtdefaeieiaegaaaGreatDoor.PbL
open ValM LexM ExM ShowM PrM NumM ParseM
set_option linter.unusedVariables false
/-- A token without its offset. -/
abbrev B := Int × List UInt8 × Int × Int × List UInt8
def word (s : List UInt8) : B := (2, s, 0, 0, [])
def sg (s : List UInt8) : B := (4, s, 0, 0, [])
theorem dig_at (d : Nat) (h : d < 10) : digB (UInt8.ofNat (48 + d)) = true := by
  obtain rfl | rfl | rfl | rfl | rfl | rfl | rfl | rfl | rfl | rfl : d = 0 ∨ d = 1 ∨ d = 2 ∨ d = 3 ∨ d = 4 ∨ d = 5 ∨ d = 6 ∨ d = 7 ∨ d = 8 ∨ d = 9 := by omega
  all_goals decide
theorem dec_all (u : Nat) : (Lib.decDigits u).all digB = true := by
  induction u using Nat.strongRecOn with
  | _ u ih =>
    by_cases h : u < 10
    · rw [Lib.decDigits_one h, List.all_cons, dig_at u h]; rfl
    · rw [Lib.decDigits, dif_neg h, List.all_append, ih (u / 10) (by omega), List.all_cons, dig_at _ (by omega)]; rfl
end Go.Proofs.YtdefaeieiaegaaaGreatDoor.PbL
namespace Go.Proofs.YtdefaeieiaegaaaGreatDoor.PbT
open ValM LexM ExM ShowM PrM NumM ParseM PbL PsM
set_option linter.unusedVariables false
def opB (op : Int) : B := if op = 4 ∨ op = 15 ∨ op = 16 ∨ op = 17 ∨ op = 18 then word (signF op) else sg (signF op)
def brB (p : Int) (t : Int × List B) : List B := if precF t.1 < p then sg [40] :: (t.2 ++ [sg [41]]) else t.2
def commasB : List (List B) → List B
  | [] => []
  | [a] => a
  | a :: r => a ++ (sg [44] :: commasB r)
def argB (ts : List (Int × List B)) (i : Nat) : Int × List B := ts.getD i (0, [])
def leafB (d : Nd) : B :=
  if d.op = 1 then (if d.k = 1 then (1, Lib.itoa d.n, 1, d.n, []) else if d.k = 2 then word (showL 2 d.n []) else (3, quoteL d.s.data.toList, 3, 0, d.s.data.toList)) else word d.nm.data.toList
def btF (d : Nd) (ts : List (Int × List B)) : List B :=
  if d.op = 1 ∨ d.op = 2 then [leafB d]
  else if precF d.op = 6 then opB d.op :: sg [40] :: (commasB (ts.map (·.2)) ++ [sg [41]])
  else if precF d.op = 5 then opB d.op :: brB 5 (argB ts 0)
  else brB (leftF d.op) (argB ts 0) ++ (opB d.op :: brB (precF d.op + 1) (argB ts 1))
mutual
def Ex.bt : Ex → List B | .mk d l => btF d (btL l)
def btL : List Ex → List (Int × List B) | [] => [] | x :: l => (x.d.op, Ex.bt x) :: btL l
end
/-- What a right node is. -/
theorem node_ok {d : Nd} {m : Nat} (h : nodeE d m = 0) : 1 ≤ d.op ∧ d.op ≤ 18 ∧ m = arity d.op ∧ vOk d = true ∧ nmOk d = true := by
  unfold nodeE at h
  by_cases hr : d.op < 1 ∨ 18 < d.op
  · rw [if_pos hr] at h; exact absurd h (by decide)
  · rw [if_neg hr] at h
    by_cases hg : m = arity d.op ∧ vOk d = true ∧ nmOk d = true
    · exact ⟨by omega, by omega, hg⟩
    · rw [if_neg hg] at h; exact absurd h (by decide)
theorem bytes_nil {s : ByteArray} (h : s.data.toList.isEmpty = true) : s = ⟨#[]⟩ := by
  have h1 : s.data.toList = [] := List.isEmpty_iff.1 h
  obtain ⟨⟨l⟩⟩ := s
  simp at h1; subst h1; rfl
/-- A constant's parts. -/
theorem con_nd {d : Nd} (h1 : d.op = 1) (hv : vOk d = true) (hn : nmOk d = true) : d.nm = ⟨#[]⟩ ∧ ((d.k = 1 ∧ 0 ≤ d.n ∧ d.n ≤ 1099511627776 ∧ d.s = ⟨#[]⟩) ∨ (d.k = 2 ∧ (d.n = 0 ∨ d.n = 1) ∧ d.s = ⟨#[]⟩) ∨ (d.k = 3 ∧ d.n = 0 ∧ cleanL d.s.data.toList = true ∧ d.s.data.toList.length ≤ 40)) := by
  unfold vOk at hv
  unfold nmOk at hn
  rw [if_pos h1] at hv
  rw [if_neg (by omega)] at hn
  refine ⟨bytes_nil hn, ?_⟩
  simp only [Bool.and_eq_true, Bool.not_eq_true', Bool.and_eq_false_iff, decide_eq_false_iff_not] at hv
  obtain ⟨hk, hneg⟩ := hv
  unfold knownB isT valE at hk
  simp only [Bool.and_eq_true, Bool.or_eq_true, decide_eq_true_eq] at hk
  obtain ⟨ht, hz⟩ := hk
  by_cases hn0 : numE d.k d.n = 0
  · rw [if_pos hn0] at hz
    have hstr : d.k ≠ 3 → d.s = ⟨#[]⟩ := fun h3 => by
      unfold strE at hz
      rw [if_neg h3] at hz
      by_cases e : d.s.data.toList = []
      · exact bytes_nil (by rw [e]; rfl)
      · rw [if_neg e] at hz; exact absurd hz (by decide)
    rcases ht with (h | h) | h
    · refine .inl ⟨h, ?_, ?_, hstr (by omega)⟩
      · rcases hneg with g | g <;> omega
      · unfold numE at hn0
        rw [if_pos h] at hn0
        cases hb : NumM.okN d.n
        · rw [hb] at hn0; simp at hn0
        · exact (NumM.okN_iff.1 hb).2
    · refine .inr (.inl ⟨h, ?_, hstr (by omega)⟩)
      unfold numE at hn0
      rw [if_neg (by omega), if_pos h] at hn0
      by_cases g : 0 ≤ d.n ∧ d.n ≤ 1
      · omega
      · rw [if_neg g] at hn0; exact absurd hn0 (by decide)
    · refine .inr (.inr ⟨h, ?_, ?_⟩)
      · unfold numE at hn0
        rw [if_neg (by omega), if_neg (by omega), if_pos (.inl h)] at hn0
        by_cases g : d.n = 0
        · exact g
        · rw [if_neg g] at hn0; exact absurd hn0 (by decide)
      · unfold strE at hz
        rw [if_pos h] at hz
        by_cases h40 : 40 < d.s.data.toList.length
        · rw [if_pos h40] at hz; exact absurd hz (by decide)
        · rw [if_neg h40] at hz
          refine ⟨?_, by omega⟩
          cases hc : cleanL d.s.data.toList
          · rw [hc] at hz; simp at hz
          · rfl
  · rw [if_neg hn0] at hz; exact absurd hz hn0
theorem ops {op : Int} (h1 : 3 ≤ op) (h2 : op ≤ 18) : op = 3 ∨ op = 4 ∨ op = 5 ∨ op = 6 ∨ op = 7 ∨ op = 8 ∨ op = 9 ∨ op = 10 ∨ op = 11 ∨ op = 12 ∨ op = 13 ∨ op = 14 ∨ op = 15 ∨ op = 16 ∨ op = 17 ∨ op = 18 := by omega
end Go.Proofs.YtdefaeieiaegaaaGreatDoor.PbT
namespace Go.Proofs.YtdefaeieiaegaaaGreatDoor.PbP
open ValM LexM ExM ShowM PrM NumM ParseM PbL PsM PbT
set_option linter.unusedVariables false
def pN (x : Ex) : Nat := min 5 (precF x.d.op).toNat
end Go.Proofs.YtdefaeieiaegaaaGreatDoor.PbP
namespace Go.Proofs.YtdefaeieiaegaaaGreatDoor.PbN
open ValM LexM ExM ShowM PrM NumM ParseM PbL PsM PbT PbP PsLx
set_option linter.unusedVariables false
def sumB (bs : List B) : Nat := (bs.map fun b => b.2.1.length).sum
def W (q : Nat) (x : Ex) : Nat := sumB (brB (q : Int) (x.d.op, Ex.bt x))
def C (l : List Ex) : Nat := (l.map fun x => sumB (Ex.bt x) + 1).sum
end Go.Proofs.YtdefaeieiaegaaaGreatDoor.PbN
