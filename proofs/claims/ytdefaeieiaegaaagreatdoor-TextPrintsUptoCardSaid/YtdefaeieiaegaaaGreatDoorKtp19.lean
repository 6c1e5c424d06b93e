/- PgRef ShE TxLaw ExOpen FldOpen PgOpen: what these laws name of them. -/
import Derived.Deep.AppendLies
import Derived.RegionTactic
import Derived.BigQuiet
import Derived.Deep.QuietTactic
import Derived.Deep.RegionHeld3
import Derived.Deep.RegionLaw
import Derived.RangeFuncBox
import Derived.OwnWalk
import Derived.Deep.RegionWith
import Derived.BigRegion
import Derived.Laws.OwnMore
import Derived.Laws.Pointers
import Derived.Test.YtdefaeieiaegaaaGreatDoorChecked
import Derived.WalkKit
import Derived.ProofKit
import Derived.Lib.ConvBytes
import Derived.Lib.AtoiErrMem
import Derived.Laws.IdiomStrings
import Derived.WalkSpells
import Derived.WalkLawsBesides
import Derived.Outline
import Derived.Lib.Hide
import Derived.Deep.LoopGhost
import Derived.Below
import Derived.Deep.Draws
import GoSem.Claim
import Derived.Lib.Bytealg
import Derived.Lib.Small
import Derived.Lib.AtoiAll
import Derived.Test.YtdefaeieiaegaaaGreatDoorProg
import Derived.IntWalk
import Derived.ChangeAlike
import Derived.WalkSmall
import Derived.RangeFuncNested
import Derived.RangeFuncBound
import Derived.RangeFuncCalls
import Derived.RangeFuncLeaves
import Derived.Shelf.Abstract
import Derived.Shelf.RegionOpen
import Derived.OwnWalkIn
import Derived.TacticsInMore
import Derived.LoopNIn
import Derived.LoopIn
import Derived.ChangeOld
import Derived.Deep.DrawnRows
import Derived.LaidMore
import Derived.LaidLaws
import Derived.ChangeArms
import Derived.Lib.LaidTab
import Derived.WideShapes
import Derived.Deep.DeepCutAuto
import Derived.Deep.CutBlock
import Derived.Maps.Own
import Derived.Maps.OwnSet
import Derived.Maps.AppendAt
import Derived.Maps.Range
import Derived.Maps.RangeWalk
import Derived.Laws.AppendOwnNone
import Derived.Sort.EncStr
import Derived.StringKeys
import Derived.Laws.CopyOwn
import Derived.RangeFuncRecord
import Derived.Shelf.Strings.Builder1
import Derived.Shelf.Strings.Builder2
import Derived.Shelf.Strings.OnBuilder
import Derived.Shelf.Small.Bits
import Derived.Shelf.Small.Wraps
import Derived.Shelf.Strings.BuilderF
import Derived.Shelf.Strings.BuilderK
import Derived.Shelf.Strconv.Atoi
import Derived.Shelf.Strconv.Itoa0
import Derived.Shelf.Strconv.Itoa1
import Derived.Shelf.LaysM
import Derived.Shelf.Strconv.Itoa2
import Derived.Shelf.Strconv.Itoa3
import Derived.Shelf.Strconv.AtoiErrFast
import Derived.Shelf.Strconv.ParseIntEmpty
import Derived.Shelf.Strconv.AtoiFail
import Derived.Shelf.Strconv.Clone
import Derived.Shelf.Strconv.SyntaxError
import Derived.Shelf.LaysC
import Derived.Shelf.Strconv.ToError
import Derived.Shelf.Strconv.Lower
import Derived.Shelf.Strconv.ParseUint10
import Derived.Shelf.Strconv.ParseUint10Empty
import Derived.Shelf.Strconv.ParseUint10Any
import Derived.Shelf.Strconv.ParseInt10
import Derived.Shelf.Strconv.AtoiLong
import Derived.Shelf.Strconv.AtoiInnerAll
import Derived.Shelf.Strconv.RangeError
import Derived.Shelf.Strconv.ToErrorRange
import Derived.Shelf.Strconv.AtoiAll
import Derived.Shelf.Strconv.ErrVarAll
import Derived.Shelf.Strings.Search1
import Derived.Shelf.Strings.Search2
import Derived.Shelf.Strings.Search3
import Derived.Shelf.Strings.Cut
import Derived.Shelf.Strings.Count
import Derived.Shelf.Strings.Shaped
import Derived.Shelf.Strings.Prefix
import Derived.Shelf.Strings.Split
import Derived.Shelf.Bits.Mul64
import Derived.Shelf.Unicode.DecodeSlow
import Derived.Shelf.Slices.Turned
import Derived.Shelf.Slices.Equal
import Derived.Ground.Names2Prog
import Derived.Shelf.Slices.Clone
import Derived.Shelf.Slices.Empties2
import Derived.Ground.SlgfProg
import Derived.Shelf.SlicesE.IndexFunc
import Derived.Ground.SlgmProg
import Derived.Shelf.SortM.Plain
import Derived.Shelf.SortM.SortNone
import Derived.Calls
import Derived.Orders
import Derived.OrdersHeld
import Derived.RangeFuncWrites
import Derived.Maps.OwnIn
import Derived.Shelf.SlIter.Nil
import Derived.Ground.GgzProg
import Derived.Lib.UnsafeStr
import Derived.Lib.ItoaNum
import Derived.Lib.AtoiTie
import Derived.Lib.ItoaMem
import Derived.Lib.AppendIntMem
import Derived.Lib.ItoaLen
import Derived.Lib.IndexMore
import Derived.Lib.Split
import Derived.Lib.Strings
import Derived.Lib.ReplaceLaws
import Derived.Lib.CountLaws
import Derived.Lib.SplitLaws
import Derived.Maps.Keyed
import Derived.Test.YtdefaeieiaegaaaGreatDoorRows
import Derived.Deep.Slices
import Derived.OpenShut
import Derived.ChangeSame
import Derived.DataReads
import Derived.Test.YtdefaeieiaegaaaGreatDoorKtp01
import Derived.Test.YtdefaeieiaegaaaGreatDoorKtp04
import Derived.Test.YtdefaeieiaegaaaGreatDoorKtp12
import Derived.Test.YtdefaeieiaegaaaGreatDoorKtp15
import Derived.Test.YtdefaeieiaegaaaGreatDoorKtp16
import Derived.Test.YtdefaeieiaegaaaGreatDoorKtp18
namespace Go.Proofs.YtdefaeieiaegaaaGreatDoor.PgR
open Go.RowKit Go.Maps
open ValM LexM NumM ExM NmM Kit ExL ExP ExN ExC NmC NmP NmA NmT RawV Within RawL GenL FldP FldR FldC FrmM TyM Ty TyO SMp PgM PgA PgB
set_option linter.unusedVariables false
set_option maxRecDepth 100000 in
set_option maxHeartbeats 8000000 in
theorem refPages_any (ps : List PE) (PA : Option Addr) (pc : Nat) (fs : List GenL.Fd) (FA : Option Addr) (fc : Nat) (w : World) (hm : fs.length ≤ 1048576) (hf : Flds w FA fs) (hp : Pgs w PA ps) (ho : PgsOk w ps) (hl : ps.length ≤ maxLen) (hlp : ∀ e ∈ ps, e.fs.length ≤ 1048576 ∧ e.x.nodes ≤ 1048576) :
    Calls Tryz.prog 59 #[.slice PA ps.length pc, .slice FA fs.length fc] w fun r w' => r = .returned (.int .i64 (checkP fs ps)) ∧ Below w.heap.size w w' := by
  obtain ⟨s0, hsi, hsz0, hsz1, hsz2⟩ := info_parts NmA.infoStr
  obtain ⟨R, hR⟩ : ∃ R, checkP fs ps = R := ⟨_, rfl⟩
  rw [hR]
  unfold checkP at hR
  by_cases h0 : ps.length = 0 ∨ 6 < ps.length
  · rw [if_pos h0] at hR
    subst hR
    by_cases h1 : ps.length = 0
    · rw [h1]
      clear hf hp ho hl hlp h0 h1
      go_enter Tryz.func59, Tryz.ntmps59
      go_wp2_with fail
      go_ret
      exact ⟨rfl, Below.refl _ _⟩
    · have t1 : ((ps.length : Int) == 0) = false := beq_eq_false_iff_ne.2 (by omega)
      have t2 : (6 : Int) < (ps.length : Int) := by omega
      clear hf hp ho hl hlp h0 h1
      go_enter Tryz.func59, Tryz.ntmps59
      go_wp2_with fail
      go_ret
      exact ⟨rfl, Below.refl _ _⟩
  · rw [if_neg h0] at hR
    have hn6 : 1 ≤ ps.length ∧ ps.length ≤ 6 := by omega
    have t1 : ((ps.length : Int) == 0) = false := beq_eq_false_iff_ne.2 (by omega)
    have t2 : ¬ (6 : Int) < (ps.length : Int) := by omega
    have hstop : ∀ k, k < ps.length → (∀ j, j < k → pageE fs ps j = 0) → pageE fs ps k ≠ 0 → R = pageE fs ps k := fun k hk h h0 => by rw [← hR]; exact scan_stop ps.length k hk h h0
    have hall : (∀ j, j < ps.length → pageE fs ps j = 0) → R = 0 := fun h => by rw [← hR]; exact scan_zero ps.length h
    have HStop := Lib.hid hstop
    have HAll := Lib.hid hall
    have HF := Lib.hid hf
    have HP := Lib.hid hp
    have HO := Lib.hid ho
    have HLp := Lib.hid hlp
    clear hstop hall hf hp ho hlp hR h0
    go_enter Tryz.func59, Tryz.ntmps59
    go_wp2_with fail
    go_loopw [5, 22] (fun mt ii wr => ∃ (k : Nat) (A : Option Addr) (c ml : Nat), ii = .int .i64 k ∧ k ≤ ps.length ∧ mt = .slice A ml c ∧ ml ≤ k * 1048576 ∧ (metP ps k).length = ml ∧ (∀ j, j < k → pageE fs ps j = 0) ∧ wr.ownsRow w.heap.size 9 1 (.slice A ml c) ml (strV (metP ps k)) ∧ Below w.heap.size w wr) (fun _ ii _ => ps.length - (intOf ii).toNat)
    case atStart => exact ⟨0, none, 0, 0, rfl, Nat.zero_le _, rfl, Nat.zero_le _, rfl, fun j hj => absurd hj (by omega), World.ownsRow_nil _ _ _ _, Below.refl _ _⟩
    case round =>
      obtain ⟨k, A, c, ml, rfl, hk, rfl, hml, hmtl, hzr, hown, hb⟩ := hrel
      obtain ⟨wa, rfl⟩ : ∃ V, V = wr := ⟨_, rfl⟩
      by_cases hlt : k < ps.length
      · obtain ⟨ad, rfl, hat⟩ := HP.out.below hb k hlt
        have hoe := HO.out ps[k] (List.getElem_mem hlt)
        have hle := HLp.out ps[k] (List.getElem_mem hlt)
        have hpe : pageE fs ps k = (if LexB.nameE ps[k].nm.data.toList = 0 then (if pAt ps ps[k].nm < k then 6 else if scan (nameE fs (metP ps k) ps[k].fs) ps[k].fs.length = 0 then (if bareB ps[k].x.d ps[k].m = true then 0 else fitsT (fts fs) ps[k].x 2) else scan (nameE fs (metP ps k) ps[k].fs) ps[k].fs.length) else LexB.nameE ps[k].nm.data.toList) := by unfold pageE; rw [dif_pos hlt]
        have hstop := HStop.out k hlt hzr
        have hnext : pageE fs ps k = 0 → ∀ j, j < k + 1 → pageE fs ps j = 0 := fun e j hj => by
          by_cases h : j = k
          · subst h; exact e
          · exact hzr j (by omega)
        have hms := metP_succ ps k hlt
        obtain ⟨e, hek⟩ : ∃ e, ps[k] = e := ⟨_, rfl⟩
        rw [hek] at hat hoe hle hpe hms
        obtain ⟨q0, q1, q2, q3, q4, q5, q6, q7⟩ := hat
        obtain ⟨W5, hW5⟩ : ∃ V, wa.alloc (.cells #[.string e.nm, .slice e.F e.fs.length e.fc, .int .i64 e.x.d.op, .int .i64 e.x.d.k, .int .i64 e.x.d.n, .string e.x.d.s, .string e.x.d.nm, .slice e.B e.m e.c] 59) = V := ⟨_, rfl⟩
        obtain ⟨B9, hB9⟩ : ∃ B, wa.heap.size = B := ⟨_, rfl⟩
        have hb5 := b_new wa (.cells #[.string e.nm, .slice e.F e.fs.length e.fc, .int .i64 e.x.d.op, .int .i64 e.x.d.k, .int .i64 e.x.d.n, .string e.x.d.s, .string e.x.d.nm, .slice e.B e.m e.c] 59)
        have hblk : W5.heap[B9]? = some (.cells #[.string e.nm, .slice e.F e.fs.length e.fc, .int .i64 e.x.d.op, .int .i64 e.x.d.k, .int .i64 e.x.d.n, .string e.x.d.s, .string e.x.d.nm, .slice e.B e.m e.c] 59 (0, 0)) := by
          have h1 := World.alloc_heap_new wa (.cells #[.string e.nm, .slice e.F e.fs.length e.fc, .int .i64 e.x.d.op, .int .i64 e.x.d.k, .int .i64 e.x.d.n, .string e.x.d.s, .string e.x.d.nm, .slice e.B e.m e.c] 59)
          rw [hW5, hB9] at h1
          exact h1
        rw [hW5] at hb5
        have hcells : ∀ V : World, V.heap[B9]? = some (.cells #[.string e.nm, .slice e.F e.fs.length e.fc, .int .i64 e.x.d.op, .int .i64 e.x.d.k, .int .i64 e.x.d.n, .string e.x.d.s, .string e.x.d.nm, .slice e.B e.m e.c] 59 (0, 0)) → V.cell? ⟨B9, 0, none⟩ = some (.string e.nm) ∧ V.cell? ⟨B9, 1, none⟩ = some (.slice e.F e.fs.length e.fc) ∧ V.cell? ⟨B9, 2, none⟩ = some (.int .i64 e.x.d.op) ∧ V.cell? ⟨B9, 3, none⟩ = some (.int .i64 e.x.d.k) ∧ V.cell? ⟨B9, 4, none⟩ = some (.int .i64 e.x.d.n) ∧ V.cell? ⟨B9, 5, none⟩ = some (.string e.x.d.s) ∧ V.cell? ⟨B9, 6, none⟩ = some (.string e.x.d.nm) ∧ V.cell? ⟨B9, 7, none⟩ = some (.slice e.B e.m e.c) := fun V h => ⟨by simp [World.cell?, h], by simp [World.cell?, h], by simp [World.cell?, h], by simp [World.cell?, h], by simp [World.cell?, h], by simp [World.cell?, h], by simp [World.cell?, h], by simp [World.cell?, h]⟩
        have hown5 := GenL.own_below hown hb5
        have hobl : ∀ g, (Value.slice A ml c).ownBlock = some g → g ≠ B9 := fun g hg => by have := (hown.lt g hg).2; omega
        have hbw5 := b_trans hb hb5
        have hnm := LexB.refName_any e.nm W5 hoe.nm
        have hpa : ∀ V, Below w.heap.size w V → Calls Tryz.prog 102 #[.slice (some ad) ps.length pc, .string e.nm] V fun r w' => r = .returned (.int .i64 (pAt ps e.nm : Int)) ∧ Below V.heap.size V w' := fun V hV => pageAt_any e.nm ps (some ad) pc V hl (HP.out.below hV)
        have hfa : ∀ (s : ByteArray) V, Below w.heap.size w V → Calls Tryz.prog 101 #[.slice FA fs.length fc, .string s] V fun r w' => r = .returned (.int .i64 (atF fs s : Int)) ∧ Below V.heap.size V w' := fun s V hV => refAt_any s fs FA fc V (HF.out.below hV) (by omega)
        have hsk : ∀ V, Below w.heap.size w V → Calls Tryz.prog 103 #[.agg #[.int .i64 e.x.d.op, .int .i64 e.x.d.k, .int .i64 e.x.d.n, .string e.x.d.s, .string e.x.d.nm, .slice e.B e.m e.c], .slice FA fs.length fc, .int .i64 2] V fun r w' => r = .returned (.int .i64 (fitsT (fts fs) e.x 2)) ∧ Below V.heap.size V w' := fun V hV => TyRT.refFits_any e.x fs FA fc 2 e.x.d e.B e.m e.c V hle.2 (by omega) (hoe.skip.below hV) (HF.out.below hV)
        have hbr := fun V => FldR.refBare_any e.x.d e.B e.m e.c V
        have htr : ∀ V, Below w.heap.size w V → TRow V e.F e.fs := fun V hV => hoe.row.below hV
        obtain ⟨x0, x1, x2, x3, x4, x5, x6, x7⟩ := hcells W5 hblk
        have HNm := Lib.hid hnm
        have HPa := Lib.hid hpa
        have HFa := Lib.hid hfa
        have HSk := Lib.hid hsk
        have HBr := Lib.hid hbr
        have HTr := Lib.hid htr
        have HBlk := Lib.hid hblk
        have HCells := Lib.hid hcells
        have HOwn5 := Lib.hid hown5
        have HObl := Lib.hid hobl
        have HBw5 := Lib.hid hbw5
        have HPe := Lib.hid hpe
        have HStop2 := Lib.hid hstop
        have HNx := Lib.hid hnext
        have HMs := Lib.hid hms
        have HMl := Lib.hid hmtl
        have HW5 := Lib.hid hW5
        have HB9 := Lib.hid hB9
        have HLe := Lib.hid hle
        have hki : (k : Int) < (ps.length : Int) := by omega
        clear hnm hpa hfa hsk hbr htr hblk hcells hown5 hobl hbw5 hpe hstop hnext hms hmtl hW5 hB9 hle hoe hown hb hb5 hzr hek
        generalize LexB.nameE e.nm.data.toList = ne at HNm HPe
        generalize e.F = eF at *
        by_cases h0 : ne = 0
        · subst h0
          go_upto_region 7 with fail
          rw [HW5.out, HB9.out]
          go_wp2_with fail
          refine HNm.out.mono ?_; rintro r w6 ⟨rfl, hb6⟩
          have hblk6 := (hb6.block B9 (Array.getElem?_eq_some_iff.1 HBlk.out).1).trans HBlk.out
          obtain ⟨x0, x1, x2, x3, x4, x5, x6, x7⟩ := HCells.out w6 hblk6
          have hbw6 := b_trans HBw5.out hb6
          have HPa6 := Lib.hid (HPa.out w6 hbw6)
          have HO6 := Lib.hid (And.intro hblk6 (And.intro (GenL.own_below HOwn5.out hb6) hbw6))
          clear hblk6 hbw6 hb6
          go_wp2_with fail
          refine HPa6.out.mono ?_; rintro r w7 ⟨rfl, hb7⟩
          have hblk7 := (hb7.block B9 (Array.getElem?_eq_some_iff.1 HO6.out.1).1).trans HO6.out.1
          obtain ⟨x0, x1, x2, x3, x4, x5, x6, x7⟩ := HCells.out w7 hblk7
          have hbw7 := b_trans HO6.out.2.2 hb7
          have HO7 := Lib.hid (And.intro hblk7 (And.intro (GenL.own_below HO6.out.2.1 hb7) hbw7))
          clear hblk7 hbw7 hb7
          by_cases hd : pAt ps e.nm < k
          · have h6 : pageE fs ps k = 6 := by first | rw [HPe.out, if_pos rfl, if_pos hd] | rw [HPe.out, if_pos trivial, if_pos hd]
            obtain rfl := (HStop2.out (by rw [h6]; decide)).trans h6
            have t3 : (pAt ps e.nm : Int) < (k : Int) := by omega
            clear h6 hd
            go_wp2_with fail
            go_ret
            exact ⟨rfl, HO7.out.2.2⟩
          · have hpe2 : pageE fs ps k = (if scan (nameE fs (metP ps k) e.fs) e.fs.length = 0 then (if bareB e.x.d e.m = true then 0 else fitsT (fts fs) e.x 2) else scan (nameE fs (metP ps k) e.fs) e.fs.length) := by first | rw [HPe.out, if_pos rfl, if_neg hd] | rw [HPe.out, if_pos trivial, if_neg hd]
            have t3 : ¬ (pAt ps e.nm : Int) < (k : Int) := by omega
            have hname : ∀ j, j < e.fs.length → (∀ i, i < j → nameE fs (metP ps k) e.fs i = 0) → nameE fs (metP ps k) e.fs j ≠ 0 → R = nameE fs (metP ps k) e.fs j := fun j hj hz h1 => by
              have h2 := scan_stop e.fs.length j hj hz h1
              have h3 : pageE fs ps k = nameE fs (metP ps k) e.fs j := by rw [hpe2, h2, if_neg h1]
              exact (HStop2.out (by rw [h3]; exact h1)).trans h3
            have hgood : (∀ j, j < e.fs.length → nameE fs (metP ps k) e.fs j = 0) → pageE fs ps k = (if bareB e.x.d e.m = true then 0 else fitsT (fts fs) e.x 2) := fun h => by rw [hpe2, scan_zero _ h, if_pos rfl]
            have HName := Lib.hid hname
            have HGood := Lib.hid hgood
            have hst0 : w7.ownsRow w.heap.size 9 1 (.slice A ml c) ml (strV (metP ps k ++ e.fs.take 0)) := by rw [List.take_zero, List.append_nil]; exact HO7.out.2.1
            have HSt0 := Lib.hid hst0
            clear hpe2 HPe hname hgood hst0
            go_wp2_with fail
            clear hd
            go_loopw [5, 42] (fun mt ii wr => ∃ (j : Nat) (A : Option Addr) (c nl : Nat), ii = .int .i64 j ∧ j ≤ e.fs.length ∧ mt = .slice A nl c ∧ nl = ml + j ∧ (∀ i, i < j → nameE fs (metP ps k) e.fs i = 0) ∧ wr.ownsRow w.heap.size 9 1 (.slice A nl c) nl (strV (metP ps k ++ e.fs.take j)) ∧ (∀ g, (Value.slice A nl c).ownBlock = some g → g ≠ B9) ∧ wr.heap[B9]? = some (.cells #[.string e.nm, .slice eF e.fs.length e.fc, .int .i64 e.x.d.op, .int .i64 e.x.d.k, .int .i64 e.x.d.n, .string e.x.d.s, .string e.x.d.nm, .slice e.B e.m e.c] 59 (0, 0)) ∧ Below w.heap.size w wr) (fun _ ii _ => e.fs.length - (intOf ii).toNat)
            case atStart => exact ⟨0, A, c, ml, rfl, Nat.zero_le _, rfl, by omega, fun j hj => absurd hj (by omega), HSt0.out, HObl.out, HO7.out.1, HO7.out.2.2⟩
            case round =>
              obtain ⟨j, A, c, nl, rfl, hj, rfl, hnl, hzj, hown, hob, hblk, hbw⟩ := hrel
              obtain ⟨wb, rfl⟩ : ∃ V, V = wr := ⟨_, rfl⟩
              by_cases hjl : j < e.fs.length
              · obtain ⟨a2, rfl, hc⟩ := HTr.out wb hbw j hjl
                have hname := HName.out j hjl hzj
                have hnxj : nameE fs (metP ps k) e.fs j = 0 → ∀ i, i < j + 1 → nameE fs (metP ps k) e.fs i = 0 := fun e9 i hi => by
                  by_cases h : i = j
                  · subst h; exact e9
                  · exact hzj i (by omega)
                have hne : nameE fs (metP ps k) e.fs j = (if atF fs e.fs[j] < fs.length then (if hasB (metP ps k ++ e.fs.take j) e.fs[j] = true then 6 else 0) else 5) := by unfold nameE; rw [dif_pos hjl]
                have htk : metP ps k ++ e.fs.take (j + 1) = metP ps k ++ e.fs.take j ++ [e.fs[j]] := by rw [List.take_succ_eq_append_getElem hjl, List.append_assoc]
                have hml2 : (metP ps k ++ e.fs.take j).length = nl := by rw [List.length_append, HMl.out, List.length_take]; omega
                obtain ⟨t, ht⟩ : ∃ t, e.fs[j] = t := ⟨_, rfl⟩
                rw [ht] at hc hne htk
                have hji : (j : Int) < (e.fs.length : Int) := by omega
                have HFa8 := Lib.hid (HFa.out t wb hbw)
                have HName2 := Lib.hid hname
                have HNxj := Lib.hid hnxj
                have HNe := Lib.hid hne
                have HTk := Lib.hid htk
                have HMl2 := Lib.hid hml2
                have HOwn := Lib.hid hown
                have HOb := Lib.hid hob
                have HBk := Lib.hid hblk
                have HBw := Lib.hid hbw
                have HNl := Lib.hid hnl
                have HJl := Lib.hid hjl
                have hj6 : e.fs.length ≤ 1048576 := HLe.out.1
                have hnl7 : nl ≤ 7 * 1048576 := by have := HLe.out.1; have : k * 1048576 ≤ 6 * 1048576 := Nat.mul_le_mul_right _ (by omega); omega
                clear hname hnxj hne htk hml2 hown hob hblk hbw ht hzj hnl
                go_wp2_with fail
                refine HFa8.out.mono ?_; rintro r w8 ⟨rfl, hb8⟩
                have hown8 := GenL.own_below HOwn.out hb8
                have hbw8 := b_trans HBw.out hb8
                have hblk8 := (hb8.block B9 (Array.getElem?_eq_some_iff.1 HBk.out).1).trans HBk.out
                by_cases hat2 : atF fs t < fs.length
                · have t4 : ((atF fs t : Int) == (fs.length : Int)) = false := beq_eq_false_iff_ne.2 (by omega)
                  obtain ⟨A', c', ev, hsr⟩ := SRow.of_own (L := metP ps k ++ e.fs.take j) (by rw [HMl2.out]; exact hown8)
                  rw [HMl2.out] at ev
                  injection ev with ev1 ev2 ev3
                  subst ev1 ev3
                  have hho := holdsT_any (metP ps k ++ e.fs.take j) t A c w8 (by rw [HMl2.out]; unfold maxLen; omega) (TRow.of_srow hsr)
                  rw [HMl2.out] at hho
                  have HHo := Lib.hid hho
                  have HNe2 := Lib.hid (HNe.out.trans (if_pos hat2))
                  have HO8 := Lib.hid (And.intro hown8 (And.intro hbw8 hblk8))
                  clear hho hsr ev2 hown8 hbw8 hblk8 hb8 hat2
                  cases hB : hasB (metP ps k ++ e.fs.take j) t with
                  | true =>
                    rw [hB] at HHo HNe2
                    have h6 : nameE fs (metP ps k) e.fs j = 6 := HNe2.out.trans (if_pos rfl)
                    obtain rfl := (HName2.out (by rw [h6]; decide)).trans h6
                    clear h6 hB
                    go_wp2_with fail
                    refine HHo.out.mono ?_; rintro r w9 ⟨rfl, rfl⟩
                    go_wp2_with fail
                    go_ret
                    exact ⟨rfl, HO8.out.2.1⟩
                  | false =>
                    rw [hB] at HHo HNe2
                    have h6 : nameE fs (metP ps k) e.fs j = 0 := HNe2.out.trans (if_neg (by decide))
                    have hnj := HNxj.out h6
                    have hgr : ∀ gg cap w7, w7.ownsRow w.heap.size 9 1 (.slice (some ⟨gg, 0, none⟩) (nl + 1) cap) (nl + 1) (strV (metP ps k ++ e.fs.take j) ++ [.string t]) → (w8.alloc (.cells #[.string t] 9)).grownBy w7 (Value.slice A nl c).ownBlock → ((Value.slice A nl c).ownBlock = some gg ∨ gg = w8.heap.size + 1) →
                        w7.ownsRow w.heap.size 9 1 (.slice (some ⟨gg, 0, none⟩) (nl + 1) cap) (nl + 1) (strV (metP ps k ++ e.fs.take (j + 1))) ∧ (∀ g, (Value.slice (some ⟨gg, 0, none⟩) (nl + 1) cap).ownBlock = some g → g ≠ B9) ∧ w7.heap[B9]? = some (.cells #[.string e.nm, .slice (some a2) e.fs.length e.fc, .int .i64 e.x.d.op, .int .i64 e.x.d.k, .int .i64 e.x.d.n, .string e.x.d.s, .string e.x.d.nm, .slice e.B e.m e.c] 59 (0, 0)) ∧ Below w.heap.size w w7 := fun gg cap w7 h1 h2 h3 => by
                      have hb9l := (Array.getElem?_eq_some_iff.1 HO8.out.2.2).1
                      have hbb := b_trans HO8.out.2.1 (b_new w8 (.cells #[.string t] 9))
                      refine ⟨by rw [HTk.out, strV_append]; exact h1, fun g hg => ?_, ?_, hbb.grown h2 hbb.size (fun q e => (HO8.out.1.lt q e).1)⟩
                      · have eg : g = gg := by
                          have : (some gg : Option Nat) = some g := hg
                          injection this with this; exact this.symm
                        subst eg
                        rcases h3 with h3 | h3
                        · exact HOb.out g h3
                        · omega
                      · exact (h2.block B9 (by simp; omega) (fun e9 => HOb.out B9 e9.symm rfl)).trans (((b_new w8 _).block B9 hb9l).trans HO8.out.2.2)
                    have hownA := fun o : Obj => HO8.out.1.alloc o
                    have hszw := HO8.out.2.1.size
                    have HGr := Lib.hid hgr
                    have HOwnA := Lib.hid hownA
                    have HNj := Lib.hid hnj
                    clear h6 hB hnj hgr hownA
                    generalize metP ps k ++ e.fs.take j = pth at HOwnA HGr HHo
                    go_wp2_with (first
                      | (go_at_call 100; refine HHo.out.mono ?_; rintro r w9 ⟨rfl, rfl⟩)
                      | (at_builtin; refine wpList_append_lies _ rfl _ _ 38 rfl w.heap.size 9 s0 (.string ⟨#[]⟩) 1 16 Tryz.underlying38 hsi hsz0 hsz1 hsz2 rfl (by decide) (.slice A nl c) nl (strV pth) rfl (HOwnA.out _) ⟨w8.heap.size, 0, none⟩ 1 1 [.string t] rfl rfl (World.news_of_block (cs := #[.string t]) (t := 9) (fr := (0, 0)) (World.alloc_heap_new w8 _)) (by simp [Value.oneCell']) (by decide) (by unfold maxLen; omega) (by omega) (by simp; omega) (w8.heap.size + 1) (by simp) ?_))
                    intro gg cap w9 hown9 hgrow9 hat9 _
                    have HN := Lib.hid (HGr.out gg cap w9 hown9 hgrow9 hat9)
                    clear hown9 hgrow9 hat9
                    go_wp2_with fail
                    go_roundw
                    case rel => exact ⟨j + 1, some ⟨gg, 0, none⟩, cap, nl + 1, by go_num, HJl.out, rfl, by have := HNl.out; omega, HNj.out, HN.out.1, HN.out.2.1, HN.out.2.2.1, HN.out.2.2.2⟩
                    case measure => have := HJl.out; simp [intOf]; omega
                · have hat3 : atF fs t = fs.length := by have := atF_le fs t; omega
                  have t4 : ((atF fs t : Int) == (fs.length : Int)) = true := beq_iff_eq.2 (by omega)
                  have h6 : nameE fs (metP ps k) e.fs j = 5 := by rw [HNe.out, if_neg hat2]
                  obtain rfl := (HName2.out (by rw [h6]; decide)).trans h6
                  have HB8 := Lib.hid hbw8
                  clear h6 hat2 hat3 hown8 hbw8 hblk8 hb8
                  go_wp2_with fail
                  go_ret
                  exact ⟨rfl, HB8.out⟩
              · have ej : j = e.fs.length := by omega
                have hgood := HGood.out fun i hi => hzj i (by omega)
                have hms : metP ps k ++ e.fs.take j = metP ps (k + 1) := by rw [ej, List.take_length]; exact HMs.out.symm
                rw [hms] at hown
                have hml3 : nl ≤ (k + 1) * 1048576 ∧ (metP ps (k + 1)).length = nl := by
                  have := HLe.out.1
                  rw [← hms, List.length_append, HMl.out, List.length_take, Nat.add_mul, Nat.one_mul]
                  omega
                obtain ⟨x0, x1, x2, x3, x4, x5, x6, x7⟩ := HCells.out wb hblk
                have HGood2 := Lib.hid hgood
                have HOwn := Lib.hid hown
                have HMl3 := Lib.hid hml3
                have HBk := Lib.hid hblk
                have HBw := Lib.hid hbw
                have HBr2 := Lib.hid (HBr.out wb)
                clear hgood hms hown hml3 hblk hbw hzj hob hnl
                generalize bareB e.x.d e.m = bb at HBr2 HGood2
                go_wp2_with fail
                refine HBr2.out.mono ?_; rintro r w8 ⟨rfl, hb8⟩
                have hown8 := GenL.own_below HOwn.out hb8
                have hbw8 := b_trans HBw.out hb8
                have hblk8 := (hb8.block B9 (Array.getElem?_eq_some_iff.1 HBk.out).1).trans HBk.out
                obtain ⟨x0, x1, x2, x3, x4, x5, x6, x7⟩ := HCells.out w8 hblk8
                have HO8 := Lib.hid (And.intro hown8 hbw8)
                clear hown8 hbw8 hblk8 hb8
                cases bb with
                | true =>
                  have h6 : pageE fs ps k = 0 := HGood2.out.trans (if_pos rfl)
                  have HN := Lib.hid (HNx.out h6)
                  clear h6
                  go_wp2_with fail
                  go_roundw
                  case rel => exact ⟨k + 1, A, c, nl, by go_num, by omega, rfl, HMl3.out.1, HMl3.out.2, HN.out, HO8.out.1, HO8.out.2⟩
                  case measure => simp [intOf]; omega
                | false =>
                  have h6 : pageE fs ps k = fitsT (fts fs) e.x 2 := HGood2.out.trans (if_neg (by decide))
                  have hsk8 := HSk.out w8 HO8.out.2
                  generalize fitsT (fts fs) e.x 2 = ft at hsk8 h6
                  have HSk8 := Lib.hid hsk8
                  clear hsk8
                  go_wp2_with fail
                  refine HSk8.out.mono ?_; rintro r w9 ⟨rfl, hb9⟩
                  have HO9 := Lib.hid (And.intro (GenL.own_below HO8.out.1 hb9) (b_trans HO8.out.2 hb9))
                  clear hb9 x0 x1 x2 x3 x4 x5 x6 x7
                  by_cases h1 : ft = 0
                  · subst h1
                    have HN := Lib.hid (HNx.out h6)
                    clear h6
                    go_wp2_with fail
                    go_roundw
                    case rel => exact ⟨k + 1, A, c, nl, by go_num, by omega, rfl, HMl3.out.1, HMl3.out.2, HN.out, HO9.out.1, HO9.out.2⟩
                    case measure => simp [intOf]; omega
                  · obtain rfl := (HStop2.out (by rw [h6]; exact h1)).trans h6
                    have t5 : (R != 0) = true := bne_iff_ne.2 h1
                    clear h6 h1
                    go_wp2_with fail
                    go_ret
                    exact ⟨rfl, HO9.out.2⟩
        · have h6 : pageE fs ps k = ne := by rw [HPe.out, if_neg h0]
          obtain rfl := (HStop2.out (by rw [h6]; exact h0)).trans h6
          have t3 : (R != 0) = true := bne_iff_ne.2 h0
          clear h6 h0
          go_upto_region 7 with fail
          rw [HW5.out, HB9.out]
          go_wp2_with fail
          refine HNm.out.mono ?_; rintro r w6 ⟨rfl, hb6⟩
          have HB6 := Lib.hid (b_trans HBw5.out hb6)
          clear hb6
          go_wp2_with fail
          go_ret
          exact ⟨rfl, HB6.out⟩
      · obtain rfl := HAll.out fun j hj => hzr j (by omega)
        have HB := Lib.hid hb
        clear hzr hb hown hmtl
        go_wp2_with fail
        go_ret
        exact ⟨rfl, HB.out⟩
end Go.Proofs.YtdefaeieiaegaaaGreatDoor.PgR
namespace Go.Proofs.YtdefaeieiaegaaaGreatDoor.ShE
open Go.RowKit
open ValM LexM NumM ExM NmM Kit ExL ExP ExN ExC RawV Within RawL GenL FldP FldR FldC FrmM PgM PgA RkM RkA RkO RkD CycO RkV RkW RkX RkY ShT ShL
set_option linter.unusedVariables false
open Classical in
noncomputable def rankE (fs : List GenL.Fd) (X : Nat → Ex) : Int :=
  if checkF fs X = 0 then (if ∀ i, i < fs.length → rk (rankF (needsF fs X)) i ≠ -1 then 0 else 10) else checkF fs X
/-- A first field that has no rank. -/
theorem first_un {fs : List GenL.Fd} {X : Nat → Ex} (hall : ¬ ∀ i, i < fs.length → rk (rankF (needsF fs X)) i ≠ -1) : ∃ i, i < fs.length ∧ rk (rankF (needsF fs X)) i = -1 ∧ ∀ j, j < i → rk (rankF (needsF fs X)) j ≠ -1 := by
  have hex : ∃ i, i < fs.length ∧ rk (rankF (needsF fs X)) i = -1 := by
    refine Classical.byContradiction fun h => hall fun i hi e => h ⟨i, hi, e⟩
  obtain ⟨i, hi, he⟩ := hex
  refine Nat.strongRecOn (motive := fun i => i < fs.length → rk (rankF (needsF fs X)) i = -1 → _) i (fun m ih hm9 he9 => ?_) hi he
  by_cases h : ∃ j, j < m ∧ rk (rankF (needsF fs X)) j = -1
  · obtain ⟨j, hj, e⟩ := h
    exact ih j hj (by omega) e
  · exact ⟨m, hm9, he9, fun j hj e => h ⟨j, hj, e⟩⟩
theorem rankOf_any (fs : List GenL.Fd) (X : Nat → Ex) (FA : Option Addr) (fc : Nat) (w : World) (hl : fs.length ≤ 1048576) (hf : Flds w FA fs) (hX : Forms w fs X) (hT : Tab w) (hcap : fs.length ≤ fc ∧ fc ≤ maxLen) :
    ∀ V, Below w.heap.size w V → Calls Tryz.prog 55 #[.slice FA fs.length fc] V fun e w' => ∃ v p, e = .returned (.tuple #[v, p, .int .i64 (rankE fs X)]) ∧ Below V.heap.size V w' := fun V hV => by
  unfold rankE
  by_cases h0 : checkF fs X = 0
  · obtain ⟨hm, hv, _⟩ := valid_own h0
    rw [if_pos h0]
    by_cases hall : ∀ i, i < fs.length → rk (rankF (needsF fs X)) i ≠ -1
    · rw [if_pos hall]
      refine (of_ok fs X FA fc V hm (hf.below hV) (hX.below hV) (hT.below hV) hcap h0 (fun i hi => by
        have h1 := hall i hi
        have h2 : -1 ≤ rk (rankF (needsF fs X)) i := (bd_pass (needsF fs X) (needsF fs X).length i).1
        omega)).mono fun e w' h => ?_
      obtain ⟨v, rfl, hown, hb⟩ := h
      exact ⟨v, _, rfl, hb⟩
    · rw [if_neg hall]
      obtain ⟨at0, hat, hau, hfst⟩ := first_un hall
      refine (of_cyc fs X FA fc at0 V hm (hf.below hV) (hX.below hV) (hT.below hV) hcap h0 hat hau hfst (valid_inj h0)).mono fun e w' h => ?_
      obtain ⟨v, rfl, hc, hb⟩ := h
      exact ⟨_, v, rfl, hb⟩
  · rw [if_neg h0]
    refine (of_bad fs X FA fc V (by omega) (hf.below hV) (hX.below hV) (hT.below hV) hcap h0).mono fun e w' h => ?_
    obtain ⟨rfl, hb⟩ := h
    exact ⟨_, _, rfl, hb⟩
theorem refRank_any (fs : List GenL.Fd) (X : Nat → Ex) (FA : Option Addr) (fc : Nat) (w : World) (hl : fs.length ≤ 1048576) (hf : Flds w FA fs) (hX : Forms w fs X) (hN : ∀ k, k < fs.length → (X k).nodes ≤ 1048576) :
    ∀ V, Below w.heap.size w V → Calls Tryz.prog 58 #[.slice FA fs.length fc] V fun e w' => ∃ v p, e = .returned (.tuple #[v, p, .int .i64 (rankE fs X)]) ∧ Below V.heap.size V w' := fun V hV => by
  unfold rankE
  by_cases h0 : checkF fs X = 0
  · rw [if_pos h0]
    by_cases hall : ∀ i, i < fs.length → rk (rankF (needsF fs X)) i ≠ -1
    · rw [if_pos hall]
      rcases Nat.eq_zero_or_pos fs.length with hz | hz
      · have hff := FldC.refCheck_any fs X FA fc V (by omega) (hf.below hV) (hX.below hV) hN
        rw [h0, hz] at hff
        rw [hz]
        refine (refRanks_nil FA fc V hff).mono fun e w' h => ?_
        obtain ⟨rfl, hb⟩ := h
        exact ⟨_, _, rfl, hb⟩
      · refine (ranks_valid fs X FA fc V hz (hf.below hV) (hX.below hV) hN h0).mono fun e w' h => ?_
        obtain ⟨h1, _, hb⟩ := h
        obtain ⟨v, rfl, hown⟩ := h1 hall
        exact ⟨v, _, rfl, hb⟩
    · rw [if_neg hall]
      obtain ⟨at0, hat, hau, hfst⟩ := first_un hall
      refine (ranks_valid fs X FA fc V (by omega) (hf.below hV) (hX.below hV) hN h0).mono fun e w' h => ?_
      obtain ⟨_, h1, hb⟩ := h
      obtain ⟨v, rfl, hc⟩ := h1 at0 hat hau hfst
      exact ⟨_, v, rfl, hb⟩
  · rw [if_neg h0]
    refine (refRanks_bad fs.length FA fc (checkF fs X) V h0 (FldC.refCheck_any fs X FA fc V (by omega) (hf.below hV) (hX.below hV) hN)).mono fun e w' h => ?_
    obtain ⟨rfl, hb⟩ := h
    exact ⟨_, _, rfl, hb⟩
noncomputable def formE (F : List GenL.Fd) (X : Nat → Ex) (P : List PE) : Int := if rankE F X = 0 then checkP F P else rankE F X
theorem formE_zero {F : List GenL.Fd} {X : Nat → Ex} {P : List PE} (h : formE F X P = 0) : checkF F X = 0 ∧ checkP F P = 0 ∧ rankE F X = 0 := by
  unfold formE at h
  by_cases h1 : rankE F X = 0
  · rw [if_pos h1] at h
    refine ⟨?_, h, h1⟩
    unfold rankE at h1
    by_cases h2 : checkF F X = 0
    · exact h2
    · rw [if_neg h2] at h1; exact h1
  · rw [if_neg h1] at h; exact absurd h h1
/-- A form as it lies there, with what its parts hold bounded. -/
structure FormIn (F : List GenL.Fd) (X : Nat → Ex) (FA : Option Addr) (fc : Nat) (P : List PE) (PA : Option Addr) (pc : Nat) (w : World) : Prop where
  fn : F.length ≤ 1048576
  fl : Flds w FA F
  fx : Forms w F X
  fN : ∀ k, k < F.length → (X k).nodes ≤ 1048576
  fcap : F.length ≤ fc ∧ fc ≤ maxLen
  pg : Pgs w PA P
  ok : PgsOk w P
  pcap : P.length ≤ pc ∧ pc ≤ maxLen
  pn : P.length ≤ 1048576
  pN : ∀ e ∈ P, e.fs.length ≤ 1048576 ∧ e.x.nodes ≤ 1048576
theorem FormIn.below {F : List GenL.Fd} {X : Nat → Ex} {FA : Option Addr} {fc : Nat} {P : List PE} {PA : Option Addr} {pc : Nat} {w w' : World} (h : FormIn F X FA fc P PA pc w) (hb : Below w.heap.size w w') : FormIn F X FA fc P PA pc w' :=
  ⟨h.fn, h.fl.below hb, h.fx.below hb, h.fN, h.fcap, h.pg.below hb, h.ok.below hb, h.pcap, h.pn, h.pN⟩
theorem check_any {F : List GenL.Fd} {X : Nat → Ex} {FA : Option Addr} {fc : Nat} {P : List PE} {PA : Option Addr} {pc : Nat} {w : World} (h : FormIn F X FA fc P PA pc w) (ht : Tab w) :
    ∀ V, Below w.heap.size w V → Calls Tryz.prog 25 #[.agg #[.slice FA F.length fc, .slice PA P.length pc]] V fun e w' => e = .returned (.int .i64 (formE F X P)) ∧ Below V.heap.size V w' := fun V hV => by
  refine ShT.check_any F.length FA fc P.length PA pc (rankE F X) (checkP F P) V (fun V' hV' => rankOf_any F X FA fc w h.fn h.fl h.fx ht h.fcap V' (hV.trans (hV'.mono hV.size))) (fun _ V' hV' => ?_)
  have hb := hV.trans (hV'.mono hV.size)
  exact PgB.check_any P PA pc F FA fc V' h.fn (h.fl.below hb) (fun k hk => (h.fx k hk).1) (h.pg.below hb) (h.ok.below hb) (by have := h.pn; unfold maxLen; omega) (fun e he => (h.pN e he).1) (ht.below hb) h.pcap
theorem fault_any {F : List GenL.Fd} {X : Nat → Ex} {FA : Option Addr} {fc : Nat} {P : List PE} {PA : Option Addr} {pc : Nat} {w : World} (h : FormIn F X FA fc P PA pc w) :
    ∀ V, Below w.heap.size w V → Calls Tryz.prog 28 #[.agg #[.slice FA F.length fc, .slice PA P.length pc]] V fun e w' => e = .returned (.int .i64 (formE F X P)) ∧ Below V.heap.size V w' := fun V hV => by
  refine ShT.fault_any F.length FA fc P.length PA pc (rankE F X) (checkP F P) V (fun V' hV' => refRank_any F X FA fc w h.fn h.fl h.fx h.fN V' (hV.trans (hV'.mono hV.size))) (fun _ V' hV' => ?_)
  have hb := hV.trans (hV'.mono hV.size)
  exact PgR.refPages_any P PA pc F FA fc V' h.fn (h.fl.below hb) (h.pg.below hb) (h.ok.below hb) (by have := h.pn; unfold maxLen; omega) h.pN
end Go.Proofs.YtdefaeieiaegaaaGreatDoor.ShE
namespace Go.Proofs.YtdefaeieiaegaaaGreatDoor.TxA
open Go.RowKit
open ValM LexM NumM ExM NmM ShowM PrM Kit ExL ExP ExN RawV Within RawL GenL FldP FldR FldC FrmM PgM PgA ShT ShE TxM TxR TxP TxT Prn TxQ TxR2
set_option linter.unusedVariables false
def feOf (F : List GenL.Fd) (X : Nat → Ex) (k : Nat) : FE := if h : k < F.length then ⟨F[k].nm, F[k].kind, F[k].ty, X k, F[k].A, F[k].n, F[k].c⟩ else ⟨⟨#[]⟩, 0, 0, .mk ⟨0, 0, 0, ⟨#[]⟩, ⟨#[]⟩⟩ [], none, 0, 0⟩
theorem fe_of {F : List GenL.Fd} {X : Nat → Ex} {w : World} (h : ∀ (k : Nat) (hk : k < F.length), Is w (X k) F[k].d F[k].A F[k].n) : ∃ es : List FE, es.map FE.fd = F ∧ es.length = F.length ∧ Srcs X es ∧ FIs w es := by
  have hl : ((List.range F.length).map (feOf F X)).length = F.length := by simp
  have hat : ∀ (k : Nat) (hk : k < ((List.range F.length).map (feOf F X)).length), ((List.range F.length).map (feOf F X))[k] = ⟨F[k]'(by rwa [hl] at hk) |>.nm, (F[k]'(by rwa [hl] at hk)).kind, (F[k]'(by rwa [hl] at hk)).ty, X k, (F[k]'(by rwa [hl] at hk)).A, (F[k]'(by rwa [hl] at hk)).n, (F[k]'(by rwa [hl] at hk)).c⟩ := fun k hk => by
    rw [List.getElem_map, List.getElem_range]
    unfold feOf
    rw [dif_pos (by rwa [hl] at hk)]
  refine ⟨(List.range F.length).map (feOf F X), ?_, hl, fun k hk => ?_, fun k hk => ?_⟩
  · refine List.ext_getElem (by rw [List.length_map, hl]) fun k h1 h2 => ?_
    rw [List.getElem_map, hat k (by rw [hl]; exact h2)]
    have hd := ExS.is_d (h k h2)
    unfold FE.fd
    simp only
    rw [← hd]
  · rw [hat k hk]
  · rw [hat k hk]
    have hk' : k < F.length := by rwa [hl] at hk
    have := h k hk'
    have hd := ExS.is_d this
    simp only
    rw [← hd]
    exact this
/-- A form that comes in. -/
theorem in_of {F : List GenL.Fd} {FA : Option Addr} {fc : Nat} {P : List PE} {PA : Option Addr} {pc : Nat} {w : World} (hfn : F.length ≤ 1048576) (hfl : Flds w FA F)
    (hfx : ∀ (j : Nat) (h : j < F.length), F[j].nm.size ≤ maxLen ∧ ∃ x, ExL.Is w x F[j].d F[j].A F[j].n ∧ x.nodes ≤ 1048576) (hcp : F.length ≤ fc ∧ fc ≤ maxLen)
    (hpg : Pgs w PA P) (hpx : ∀ e ∈ P, PgOk w e ∧ (e.fs.length ≤ e.fc ∧ e.fc ≤ maxLen) ∧ e.x.nodes ≤ 1048576 ∧ e.fs.length ≤ 1048576) (hpd : P.length ≤ pc ∧ pc ≤ maxLen) (hpn : P.length ≤ 1048576) :
    ∃ (es : List FE) (X : Nat → Ex), es.map FE.fd = F ∧ es.length = F.length ∧ FormIn F X FA fc P PA pc w ∧ (∀ (R : Int), formE F X P = R → R = 0 → FormOk w es P X) := by
  obtain ⟨X, hX⟩ : ∃ X : Nat → Ex, ∀ (k : Nat) (h : k < F.length), F[k].nm.size ≤ maxLen ∧ Is w (X k) F[k].d F[k].A F[k].n ∧ (X k).nodes ≤ 1048576 := by
    refine ⟨fun k => if h : k < F.length then (hfx k h).2.choose else .mk ⟨0, 0, 0, ⟨#[]⟩, ⟨#[]⟩⟩ [], fun k h => ?_⟩
    simp only [dif_pos h]
    exact ⟨(hfx k h).1, (hfx k h).2.choose_spec⟩
  obtain ⟨es, e1, e2, e3, e4⟩ := fe_of (X := X) (fun k hk => (hX k hk).2.1)
  refine ⟨es, X, e1, e2, ⟨hfn, hfl, fun k h => ⟨(hX k h).1, (hX k h).2.1⟩, fun k h => (hX k h).2.2, hcp, hpg, fun e he => (hpx e he).1, hpd, hpn, fun e he => ⟨(hpx e he).2.2.2, (hpx e he).2.2.1⟩⟩, fun R hR h0 => ?_⟩
  rw [h0] at hR
  obtain ⟨h1, h2, _⟩ := formE_zero hR
  exact ⟨e4, fun i hi => (hpx _ (List.getElem_mem hi)).1.skip, e3, by rw [e1]; exact h1, by rw [e1]; exact h2⟩
theorem prints_any (F : List GenL.Fd) (FA : Option Addr) (fc : Nat) (P : List PE) (PA : Option Addr) (pc : Nat) (w : World) (hfn : F.length ≤ 1048576) (hfl : Flds w FA F)
    (hfx : ∀ (j : Nat) (h : j < F.length), F[j].nm.size ≤ maxLen ∧ ∃ x, ExL.Is w x F[j].d F[j].A F[j].n ∧ x.nodes ≤ 1048576) (hcp : F.length ≤ fc ∧ fc ≤ maxLen)
    (hpg : Pgs w PA P) (hpx : ∀ e ∈ P, PgOk w e ∧ (e.fs.length ≤ e.fc ∧ e.fc ≤ maxLen) ∧ e.x.nodes ≤ 1048576 ∧ e.fs.length ≤ 1048576) (hpd : P.length ≤ pc ∧ pc ≤ maxLen) (hpn : P.length ≤ 1048576) (hv : TVars w) :
    ∃ (out : ByteArray) (R : Int), (∀ V, Below w.heap.size w V → Calls Tryz.prog 8 #[.agg #[.slice FA F.length fc, .slice PA P.length pc]] V fun e w' => e = .returned (.tuple #[.string out, .int .i64 R]) ∧ Below V.heap.size V w') ∧
      ∀ V, Below w.heap.size w V → Calls Tryz.prog 9 #[.agg #[.slice FA F.length fc, .slice PA P.length pc]] V fun e w' => e = .returned (.tuple #[.string out, .int .i64 R]) ∧ Below V.heap.size V w' := by
  obtain ⟨es, X, e1, e2, hin, hfm0⟩ := in_of hfn hfl hfx hcp hpg hpx hpd hpn
  have hck := ShE.check_any hin hv.pr.tab
  have hft := ShE.fault_any hin
  obtain ⟨R, hR⟩ : ∃ R, formE F X P = R := ⟨_, rfl⟩
  have hform := hfm0 R hR
  clear hfm0
  rw [hR] at hck hft
  subst e1
  rw [← e2] at hck hft ⊢
  have hfo : ∀ V, Below w.heap.size w V → R = 0 → FormOk V es P X := fun V hV h0 => by
    have h := hform h0
    exact ⟨fun i hi => (h.fi i hi).below hV, fun i hi => (h.pi i hi).below hV, h.src, h.fields, h.pages⟩
  refine ⟨⟨(if R = 0 then formL es P else []).toArray⟩, R, fun V hV => ?_, fun V hV => ?_⟩
  · exact TxQ.print_any es P X FA fc PA pc R V (hfl.below hV) (hpg.below hV) (fun e he => (hin.ok e he).below hV) (fun e he => (hpx e he).2.1.1) (by rw [List.length_map] at hfn; exact hfn) hpn (hfo V hV) (fun V' hV' => hck V' (hV.trans (hV'.mono hV.size))) (hv.below hV)
  · exact TxR2.formText_any es P X FA fc PA pc R V (hfl.below hV) (hpg.below hV) (fun e he => (hin.ok e he).below hV) (by rw [List.length_map] at hfn; exact hfn) hpn (hfo V hV) (fun V' hV' => hft V' (hV.trans (hV'.mono hV.size))) (hv.below hV).pr.pow
end Go.Proofs.YtdefaeieiaegaaaGreatDoor.TxA
namespace Go.Proofs.YtdefaeieiaegaaaGreatDoor.ExO
open Go.ChangeShapes Go.WideShapes Go.ChangeAt Go.RowKit Go.Deep
open ExM ExL
set_option linter.unusedVariables false
theorem bulk_one {H : Type} (d : DataW H) : 1 ≤ Rows.uptoBulk d := by
  cases d with
  | lit l => cases l <;> simp [Rows.uptoBulk]
  | nil => simp [Rows.uptoBulk]
  | ptr d => simp [Rows.uptoBulk]
  | slice elems spare => simp [Rows.uptoBulk]
  | agg parts => simp [Rows.uptoBulk]
  | iface t d => simp [Rows.uptoBulk]
  | map entries => simp [Rows.uptoBulk]
  | held h => simp [Rows.uptoBulk]
theorem len3 {α : Type} {l : List α} (h : l.length = 3) : ∃ a b c, l = [a, b, c] := by
  match l, h with
  | [a, b, c], _ => exact ⟨a, b, c, rfl⟩
theorem len4 {α : Type} {l : List α} (h : l.length = 4) : ∃ a b c d, l = [a, b, c, d] := by
  match l, h with
  | [a, b, c, d], _ => exact ⟨a, b, c, d, rfl⟩
theorem len6 {α : Type} {l : List α} (h : l.length = 6) : ∃ a b c d e f, l = [a, b, c, d, e, f] := by
  match l, h with
  | [a, b, c, d, e, f], _ => exact ⟨a, b, c, d, e, f, rfl⟩
def exC (d : Nd) (A : Option Addr) (n c : Nat) : List Value := [.int .i64 d.op, .int .i64 d.k, .int .i64 d.n, .string d.s, .string d.nm, .slice A n c]
theorem addAdd (p : Addr) (j : Nat) (h : j ≠ 0) : p.add j = ⟨p.block, p.off + j, none⟩ := by unfold Addr.add; rw [if_neg h]
theorem at_of {w : World} {p : Addr} {d : Nd} {A : Option Addr} {n c : Nat} (h : ∀ i, i < 6 → w.cell? (p.add i) = (exC d A n c)[i]?) : At w p d A n c := by
  have h0 := h 0 (by decide); have h1 := h 1 (by decide); have h2 := h 2 (by decide); have h3 := h 3 (by decide); have h4 := h 4 (by decide); have h5 := h 5 (by decide)
  rw [addAdd _ _ (by decide)] at h1 h2 h3 h4 h5
  rw [show p.add 0 = p from by unfold Addr.add; rw [if_pos rfl]] at h0
  exact ⟨h0, h1, h2, h3, h4, h5⟩
theorem bulk_nodes {H : Type} : ∀ (l : List Ex) (D : List (DataW H)), l.length = D.length → (∀ (j : Nat) (h : j < l.length) (g : j < D.length), l[j].nodes ≤ Rows.uptoBulk D[j]) → nodesL l ≤ Rows.uptoBulkAll D
  | [], _, _, _ => by simp [nodesL_nil]
  | x :: l, [], h, _ => by simp at h
  | x :: l, y :: D, h, hb => by
    rw [nodesL_cons]
    simp only [Rows.uptoBulkAll]
    have h0 := hb 0 (by simp) (by simp)
    simp only [List.getElem_cons_zero] at h0
    have := bulk_nodes l D (by simpa using h) (fun j hj gj => by
      have := hb (j + 1) (by simpa using hj) (by simpa using gj)
      simpa only [List.getElem_cons_succ] using this)
    omega
instance : Inhabited Ex := ⟨.mk ⟨0, 0, 0, ⟨#[]⟩, ⟨#[]⟩⟩ []⟩
theorem choose_ex {len : Nat} {P : Nat → Ex → Prop} (h : ∀ i, i < len → ∃ x, P i x) : ∃ l : List Ex, l.length = len ∧ ∀ (j : Nat) (hj : j < l.length), P j l[j] := by
  obtain ⟨X, hX⟩ := Classical.axiomOfChoice (r := fun (i : Nat) (x : Ex) => i < len → P i x) (fun i => by
    by_cases hi : i < len
    · obtain ⟨x, hx⟩ := h i hi; exact ⟨x, fun _ => hx⟩
    · exact ⟨default, fun g => absurd g hi⟩)
  exact ⟨(List.range len).map X, by simp, fun j hj => by simp at hj ⊢; exact hX j hj⟩
set_option maxHeartbeats 1000000 in
theorem row_ex {H : Type} {enc : TypeId × Value → H} {W : World} : ∀ (fuel : Nat) {cs : List Value} {y : DataW H × List MemPlace},
    DataW.trod enc Tryz.prog W 0 (fun _ => true) true fuel 50 cs = some y → ∃ x d A n c, cs = exC d A n c ∧ Is W x d A n ∧ x.nodes ≤ Rows.uptoBulk y.1 := by
  intro fuel
  induction fuel using Nat.strongRecOn with
  | ind fuel IH =>
  intro cs y h
  obtain ⟨ys, f1, hfu, hx, hl, hlen, hf⟩ := DataW.trod_struct Tryz.underlying50 h
  have hC : Tryz.prog.cellsOf 50 = 6 := by kernel_rfl
  rw [hC] at hl
  obtain ⟨d0, d1, d2, d3, d4, d5, rfl⟩ := len6 hl
  obtain ⟨y0, y1, y2, y3, rfl⟩ := len4 (show ys.length = 4 from hlen)
  have g0 := hf 0 _ rfl
  have g1 := hf 1 _ rfl
  have g2 := hf 2 _ rfl
  have g3 := hf 3 _ rfl
  have c0 : Tryz.prog.cellsOf 3 = 1 := by kernel_rfl
  have c1 : Tryz.prog.cellsOf 47 = 3 := by kernel_rfl
  have c2 : Tryz.prog.cellsOf 9 = 1 := by kernel_rfl
  have c3 : Tryz.prog.cellsOf 48 = 1 := by kernel_rfl
  simp [c0] at g0
  simp [c1] at g1
  simp [c2] at g2
  simp [c3] at g3
  obtain ⟨op, e0, _, _⟩ := DataW.trod_int Tryz.underlying3 g0
  simp only [List.cons.injEq, and_true] at e0
  subst e0
  obtain ⟨nm, e2, _, hnm⟩ := DataW.trod_string Tryz.underlying9 g2
  simp only [List.cons.injEq, and_true] at e2
  subst e2
  obtain ⟨zs, f2, hfu2, _, _, zlen, zf⟩ := DataW.trod_struct Tryz.underlying47 g1
  obtain ⟨z0, z1, z2, rfl⟩ := len3 (show zs.length = 3 from zlen)
  have k0 := zf 0 _ rfl
  have k1 := zf 1 _ rfl
  have k2 := zf 2 _ rfl
  simp [c0] at k0 k1
  simp [c2] at k2
  obtain ⟨k, e3, _, _⟩ := DataW.trod_int Tryz.underlying3 k0
  obtain ⟨n, e4, _, _⟩ := DataW.trod_int Tryz.underlying3 k1
  obtain ⟨s, e5, _, hs⟩ := DataW.trod_string Tryz.underlying9 k2
  simp only [List.cons.injEq, and_true] at e3 e4 e5
  subst e3 e4 e5
  subst hx
  rcases DataW.trod_slice Tryz.underlying48 g3 with ⟨e6, hy3⟩ | ⟨a, len, cap, elems, rest, f3, hf3, e6, hy3, _, hlc, hcap, hel, hat, _, _⟩
  · simp only [List.cons.injEq, and_true] at e6
    subst e6
    refine ⟨.mk ⟨op, k, n, s, nm⟩ [], ⟨op, k, n, s, nm⟩, none, 0, 0, rfl, is_mk.2 ⟨rfl, rfl, ⟨Nat.zero_le _, hs, hnm⟩, fun j hj => absurd hj (by simp)⟩, ?_⟩
    rw [nodes_mk, nodesL_nil]
    exact bulk_one _
  · simp only [List.cons.injEq, and_true] at e6
    subst e6
    obtain ⟨l, hll, hl2⟩ := choose_ex (len := len) (P := fun i x => ∃ (d : Nd) (A : Option Addr) (n c : Nat), At W (a.add (i * 6)) d A n c ∧ Is W x d A n ∧ ∀ g : i < elems.length, x.nodes ≤ Rows.uptoBulk elems[i].1) (fun i hi => by
      have h1 := hat i hi
      rw [hC] at h1
      have h2 : elems[i]? = some elems[i] := List.getElem?_eq_getElem (by omega)
      rw [h2] at h1
      obtain ⟨cs', hcs, htr⟩ := Option.bind_eq_some_iff.1 h1
      obtain ⟨_, hcl, hat⟩ := World.cells?_some hcs
      obtain ⟨x, d, A, n, c, rfl, hi2, hb⟩ := IH f3 (by omega) htr
      exact ⟨x, d, A, n, c, at_of hat, hi2, fun _ => hb⟩)
    have hlm : len ≤ maxLen := by omega
    refine ⟨.mk ⟨op, k, n, s, nm⟩ l, ⟨op, k, n, s, nm⟩, some a, len, cap, rfl, is_mk.2 ⟨rfl, hll.symm, ⟨hlm, hs, hnm⟩, fun j hj => ?_⟩, ?_⟩
    · obtain ⟨d, A, n, c, h1, h2, _⟩ := hl2 j hj
      exact ⟨a, d, A, n, c, rfl, h1, h2⟩
    · have hb := bulk_nodes l (elems.map (·.1)) (by simp; omega) (fun j hj gj => by
        obtain ⟨d, A, n, c, h1, h2, h3⟩ := hl2 j hj
        have := h3 (by simpa using gj)
        simpa using this)
      rw [nodes_mk]
      subst hy3
      simp only [List.map_cons, List.map_nil, Rows.uptoBulk, Rows.uptoBulkAll]
      omega
set_option maxRecDepth 100000 in
/-- A parameter that is a formula. -/
theorem open_ex {H : Type} {enc : TypeId × Value → H} {W : World} {base : Nat} {v : Value} {d : DataW H} {p : List MemPlace}
    (hv : Value.okWide Tryz.prog W .any base 50 v) (h : DataW.Trod enc Tryz.prog W 0 (fun _ => true) true 50 v d p) :
    ∃ x e A n c, v = .agg #[.int .i64 e.op, .int .i64 e.k, .int .i64 e.n, .string e.s, .string e.nm, .slice A n c] ∧ Is W x e A n ∧ x.nodes ≤ Rows.uptoBulk d := by
  obtain ⟨cs, rfl, hsz⟩ := okWide_struct Tryz.underlying50 hv
  obtain ⟨fuel, hf⟩ := h
  obtain ⟨x, e, A, n, c, he, hi, hb⟩ := row_ex fuel hf
  have e' : cs.toList = _ := he
  obtain rfl : cs = (exC e A n c).toArray := by rw [← Array.toArray_toList (xs := cs), e']
  exact ⟨x, e, A, n, c, rfl, hi, hb⟩
end Go.Proofs.YtdefaeieiaegaaaGreatDoor.ExO
namespace Go.Proofs.YtdefaeieiaegaaaGreatDoor.FldO
open Go.ChangeShapes Go.WideShapes Go.ChangeAt Go.RowKit Go.Deep
open ExM ExL ExO GenL
set_option linter.unusedVariables false
set_option maxRecDepth 100000 in
theorem row_fld {H : Type} {enc : TypeId × Value → H} {W : World} {fuel : Nat} {cs : List Value} {y : DataW H × List MemPlace}
    (h : DataW.trod enc Tryz.prog W 0 (fun _ => true) true fuel 55 cs = some y) : ∃ (f : GenL.Fd) (x : Ex), cs = [.string f.nm, .int .i64 f.kind, .int .i64 f.ty, .int .i64 f.d.op, .int .i64 f.d.k, .int .i64 f.d.n, .string f.d.s, .string f.d.nm, .slice f.A f.n f.c] ∧ f.nm.size ≤ maxLen ∧ (Lit.int .i64 f.kind).wf = true ∧ (Lit.int .i64 f.ty).wf = true ∧ Is W x f.d f.A f.n ∧ x.nodes ≤ Rows.uptoBulk y.1 := by
  obtain ⟨ys, f1, hfu, hx, hl, hlen, hf⟩ := DataW.trod_struct Tryz.underlying55 h
  have hC : Tryz.prog.cellsOf 55 = 9 := by kernel_rfl
  rw [hC] at hl
  obtain ⟨d0, d1, d2, e0, e1, e2, e3, e4, e5, rfl⟩ : ∃ a b c d e f g h i, cs = [a, b, c, d, e, f, g, h, i] := by
    match cs, hl with
    | [a, b, c, d, e, f, g, h, i], _ => exact ⟨a, b, c, d, e, f, g, h, i, rfl⟩
  obtain ⟨y0, y1, y2, y3, rfl⟩ := len4 (show ys.length = 4 from hlen)
  have g0 := hf 0 _ rfl
  have g1 := hf 1 _ rfl
  have g2 := hf 2 _ rfl
  have g3 := hf 3 _ rfl
  have c0 : Tryz.prog.cellsOf 3 = 1 := by kernel_rfl
  have c2 : Tryz.prog.cellsOf 9 = 1 := by kernel_rfl
  have c3 : Tryz.prog.cellsOf 50 = 6 := by kernel_rfl
  simp [c0] at g1 g2
  simp [c2] at g0
  simp [c3] at g3
  obtain ⟨nm, q0, _, w0⟩ := DataW.trod_string Tryz.underlying9 g0
  obtain ⟨k, q1, _, w1⟩ := DataW.trod_int Tryz.underlying3 g1
  obtain ⟨ty, q2, _, w2⟩ := DataW.trod_int Tryz.underlying3 g2
  obtain ⟨x, d, A, n, c, q3, hi, hb⟩ := row_ex _ g3
  simp only [List.cons.injEq, and_true] at q0 q1 q2
  unfold exC at q3
  simp only [List.cons.injEq, and_true] at q3
  obtain ⟨rfl, rfl, rfl, rfl, rfl, rfl⟩ := q3
  subst q0 q1 q2
  refine ⟨⟨nm, k, ty, d, A, n, c⟩, x, rfl, w0, w1, w2, hi, ?_⟩
  subst hx
  simp only [List.map_cons, List.map_nil, Rows.uptoBulk, Rows.uptoBulkAll]
  omega
theorem addAdd (p : Addr) (i j : Nat) (hi : i ≠ 0) : p.add i = ⟨p.block, p.off + i, none⟩ := by unfold Addr.add; rw [if_neg hi]
set_option maxRecDepth 100000 in
/-- The same of any value that is read so. -/
theorem row_flds {H : Type} {enc : TypeId × Value → H} {W : World} {fuel : Nat} {v : Value} {d : DataW H} {p : List MemPlace}
    (hf : DataW.trod enc Tryz.prog W 0 (fun _ => true) true fuel 22 [v] = some (d, p)) :
    ∃ (A : Option Addr) (fs : List GenL.Fd) (c : Nat), v = .slice A fs.length c ∧ Flds W A fs ∧ (fs.length ≤ Rows.uptoBulk d ∧ fs.length ≤ maxLen ∧ fs.length ≤ c ∧ c ≤ maxLen) ∧ (∀ (i : Nat) (h : i < fs.length), fs[i].nm.size ≤ maxLen ∧ ∃ x, Is W x fs[i].d fs[i].A fs[i].n ∧ x.nodes ≤ Rows.uptoBulk d) := by
  have hC : Tryz.prog.cellsOf 55 = 9 := by kernel_rfl
  rcases open_slice Tryz.underlying22 hf with ⟨e, _⟩ | ⟨a, n, c, m, f, D, Pl, e, _, hl, hc, hm, hx, hel⟩
  · injection e with e _
    subst e
    exact ⟨none, [], 0, rfl, fun i hi => absurd hi (by simp), ⟨Nat.zero_le _, Nat.zero_le _, Nat.zero_le _, Nat.zero_le _⟩, fun i hi => absurd hi (by simp)⟩
  · injection e with e _
    subst e
    have hx1 : d = .slice ((List.range n).map D) ((List.range (m - n)).map fun j => D (n + j)) := by injection hx
    have hlen : (List.range n).length = n := List.length_range
    have bulk_len : ∀ l : List (DataW H), l.length ≤ Rows.uptoBulkAll l := fun l => by
      induction l with
      | nil => simp
      | cons x l ih => simp only [Rows.uptoBulkAll, List.length_cons]; have := bulk_one x; omega
    have bulk_at : ∀ (l : List (DataW H)) (i : Nat) (h : i < l.length), Rows.uptoBulk l[i] ≤ Rows.uptoBulkAll l := fun l => by
      induction l with
      | nil => intro i h; exact absurd h (by simp)
      | cons x l ih =>
        intro i h
        simp only [Rows.uptoBulkAll]
        match i, h with
        | 0, _ => simp
        | i + 1, h => have := ih i (by simpa using h); simp only [List.getElem_cons_succ]; omega
    have hb1 : Rows.uptoBulkAll ((List.range n).map D) ≤ Rows.uptoBulk d := by
      rw [hx1]; simp only [Rows.uptoBulk]; omega
    have hget : ∀ i, i < n → ∃ (f : GenL.Fd), FdAt W (a.add (i * 9)) f ∧ (f.nm.size ≤ maxLen ∧ ∃ x, Is W x f.d f.A f.n ∧ x.nodes ≤ Rows.uptoBulk d) := fun i hi => by
      have hmi : i < m := by rw [hm]; split <;> omega
      obtain ⟨cs', hcs, htr⟩ := hel i hmi
      rw [hC] at hcs
      obtain ⟨_, hcl, hat⟩ := World.cells?_some hcs
      obtain ⟨f, x, rfl, w0, w1, w2, hi2, hb⟩ := row_fld htr
      have hk : ∀ j, j ≠ 0 → (a.add (i * 9)).add j = ⟨(a.add (i * 9)).block, (a.add (i * 9)).off + j, none⟩ := fun j hj => addAdd _ j j hj
      have h0 := hat 0 (by decide); have h1 := hat 1 (by decide); have h2 := hat 2 (by decide); have h3 := hat 3 (by decide); have h4 := hat 4 (by decide); have h5 := hat 5 (by decide); have h6 := hat 6 (by decide); have h7 := hat 7 (by decide); have h8 := hat 8 (by decide)
      rw [hk _ (by decide)] at h1 h2 h3 h4 h5 h6 h7 h8
      rw [show ∀ p : Addr, p.add 0 = p from fun p => by unfold Addr.add; rw [if_pos rfl]] at h0
      have hbi := bulk_at ((List.range n).map D) i (by simpa using hi)
      simp only [List.getElem_map, List.getElem_range] at hbi
      have hb' : x.nodes ≤ Rows.uptoBulk (D i) := hb
      exact ⟨f, ⟨h0, h1, h2, h3, h4, h5, h6, h7, h8⟩, w0, x, hi2, by omega⟩
    obtain ⟨F, hF⟩ := Classical.axiomOfChoice (r := fun (i : Nat) (f : GenL.Fd) => i < n → FdAt W (a.add (i * 9)) f ∧ (f.nm.size ≤ maxLen ∧ ∃ x, Is W x f.d f.A f.n ∧ x.nodes ≤ Rows.uptoBulk d)) (fun i => by
      by_cases hi : i < n
      · obtain ⟨f, hf⟩ := hget i hi; exact ⟨f, fun _ => hf⟩
      · exact ⟨⟨⟨#[]⟩, 0, 0, ⟨0, 0, 0, ⟨#[]⟩, ⟨#[]⟩⟩, none, 0, 0⟩, fun g => absurd g hi⟩)
    refine ⟨some a, (List.range n).map F, c, by rw [List.length_map, hlen], fun i hi => ⟨a, rfl, ?_⟩, ?_, fun i hi => ?_⟩
    · simp at hi ⊢; exact (hF i hi).1
    · rw [List.length_map, hlen]
      have := bulk_len ((List.range n).map D)
      rw [List.length_map, hlen] at this
      exact ⟨by omega, by omega, hl, hc⟩
    · simp at hi ⊢; exact (hF i hi).2
set_option maxRecDepth 100000 in
/-- A parameter that is a slice of fields: the fields as they lie, and their formulas. -/
theorem open_flds {H : Type} {enc : TypeId × Value → H} {W : World} {base : Nat} {v : Value} {d : DataW H} {p : List MemPlace}
    (hv : Value.okWide Tryz.prog W .any base 22 v) (h : DataW.Trod enc Tryz.prog W 0 (fun _ => true) true 22 v d p) :
    ∃ (A : Option Addr) (fs : List GenL.Fd) (c : Nat), v = .slice A fs.length c ∧ Flds W A fs ∧ (fs.length ≤ Rows.uptoBulk d ∧ fs.length ≤ maxLen ∧ fs.length ≤ c ∧ c ≤ maxLen) ∧ (∀ (i : Nat) (h : i < fs.length), fs[i].nm.size ≤ maxLen ∧ ∃ x, Is W x fs[i].d fs[i].A fs[i].n ∧ x.nodes ≤ Rows.uptoBulk d) := by
  obtain ⟨A, n, c, rfl⟩ := okWide_slice Tryz.underlying22 hv
  obtain ⟨fuel, hf⟩ := h
  exact row_flds hf
set_option maxRecDepth 100000 in
/-- A parameter that is a field. -/
theorem open_fld {H : Type} {enc : TypeId × Value → H} {W : World} {base : Nat} {v : Value} {d : DataW H} {p : List MemPlace}
    (hv : Value.okWide Tryz.prog W .any base 55 v) (h : DataW.Trod enc Tryz.prog W 0 (fun _ => true) true 55 v d p) :
    ∃ (f : GenL.Fd) (x : Ex), v = .agg #[.string f.nm, .int .i64 f.kind, .int .i64 f.ty, .int .i64 f.d.op, .int .i64 f.d.k, .int .i64 f.d.n, .string f.d.s, .string f.d.nm, .slice f.A f.n f.c] ∧ f.nm.size ≤ maxLen ∧ Is W x f.d f.A f.n ∧ x.nodes ≤ Rows.uptoBulk d := by
  obtain ⟨cs, rfl, hsz⟩ := okWide_struct Tryz.underlying55 hv
  obtain ⟨fuel, hf⟩ := h
  obtain ⟨f, x, he, w0, _, _, hi, hb⟩ := row_fld hf
  have e' : cs.toList = _ := he
  obtain rfl : cs = #[.string f.nm, .int .i64 f.kind, .int .i64 f.ty, .int .i64 f.d.op, .int .i64 f.d.k, .int .i64 f.d.n, .string f.d.s, .string f.d.nm, .slice f.A f.n f.c] := by rw [← Array.toArray_toList (xs := cs), e']
  exact ⟨f, x, rfl, w0, hi, hb⟩
end Go.Proofs.YtdefaeieiaegaaaGreatDoor.FldO
namespace Go.Proofs.YtdefaeieiaegaaaGreatDoor.PgO
open Go.ChangeShapes Go.WideShapes Go.ChangeAt Go.RowKit Go.Deep
open ExM ExL ExO GenL FrmM PgM
set_option linter.unusedVariables false
theorem bulk_len {H : Type} (l : List (DataW H)) : l.length ≤ Rows.uptoBulkAll l := by
  induction l with
  | nil => simp
  | cons x l ih => simp only [Rows.uptoBulkAll, List.length_cons]; have := bulk_one x; omega
theorem bulk_at {H : Type} : ∀ (l : List (DataW H)) (i : Nat) (h : i < l.length), Rows.uptoBulk l[i] ≤ Rows.uptoBulkAll l
  | [], i, h => absurd h (by simp)
  | x :: l, 0, _ => by simp only [Rows.uptoBulkAll]; simp
  | x :: l, i + 1, h => by
    have := bulk_at l i (by simpa using h)
    simp only [Rows.uptoBulkAll, List.getElem_cons_succ]; omega
set_option maxRecDepth 100000 in
/-- A slice of texts. -/
theorem row_txt {H : Type} {enc : TypeId × Value → H} {W : World} {fuel : Nat} {v : Value} {y : DataW H × List MemPlace}
    (h : DataW.trod enc Tryz.prog W 0 (fun _ => true) true fuel 38 [v] = some y) : ∃ (A : Option Addr) (L : List ByteArray) (c : Nat), v = .slice A L.length c ∧ TRow W A L ∧ (∀ s ∈ L, s.size ≤ maxLen) ∧ (L.length ≤ c ∧ c ≤ maxLen) ∧ L.length ≤ Rows.uptoBulk y.1 := by
  have hC : Tryz.prog.cellsOf 9 = 1 := by kernel_rfl
  rcases open_slice1 Tryz.underlying38 hC h with ⟨e, _⟩ | ⟨a, len, cap, m, f, V, D, Pl, e, _, hl, hc, hm, hx, hel⟩
  · injection e with e _
    subst e
    exact ⟨none, [], 0, rfl, fun j hj => absurd hj (by simp), fun s hs => by simp at hs, ⟨Nat.zero_le _, Nat.zero_le _⟩, Nat.zero_le _⟩
  · injection e with e _
    subst e
    have hget : ∀ i, i < len → ∃ s : ByteArray, W.cell? (a.add i) = some (.string s) ∧ s.size ≤ maxLen := fun i hi => by
      obtain ⟨h1, h2⟩ := hel i (by rw [hm]; split <;> omega)
      obtain ⟨s, q, _, w0⟩ := DataW.trod_string Tryz.underlying9 h2
      injection q with q _
      exact ⟨s, by rw [h1, q], w0⟩
    obtain ⟨F, hF⟩ := Classical.axiomOfChoice (r := fun (i : Nat) (s : ByteArray) => i < len → W.cell? (a.add i) = some (.string s) ∧ s.size ≤ maxLen) (fun i => by
      by_cases hi : i < len
      · obtain ⟨f, hf⟩ := hget i hi; exact ⟨f, fun _ => hf⟩
      · exact ⟨⟨#[]⟩, fun g => absurd g hi⟩)
    have hlen : ((List.range len).map F).length = len := by simp
    refine ⟨some a, (List.range len).map F, cap, by rw [hlen], fun j hj => ⟨a, rfl, ?_⟩, fun s hs => ?_, by rw [hlen]; exact ⟨hl, hc⟩, ?_⟩
    · simp at hj ⊢; exact (hF j hj).1
    · obtain ⟨i, hi, rfl⟩ := List.mem_map.1 hs
      exact (hF i (List.mem_range.1 hi)).2
    · rw [hlen]
      subst hx
      have := bulk_len ((List.range len).map D)
      rw [List.length_map, List.length_range] at this
      simp only [Rows.uptoBulk]; omega
set_option maxRecDepth 100000 in
theorem row_pg {H : Type} {enc : TypeId × Value → H} {W : World} {fuel : Nat} {cs : List Value} {y : DataW H × List MemPlace}
    (h : DataW.trod enc Tryz.prog W 0 (fun _ => true) true fuel 59 cs = some y) : ∃ (e : PE), cs = pgC e ∧ PgOk W e ∧ (e.fs.length ≤ e.fc ∧ e.fc ≤ maxLen) ∧ e.x.nodes ≤ Rows.uptoBulk y.1 ∧ e.fs.length ≤ Rows.uptoBulk y.1 := by
  obtain ⟨ys, f1, hfu, hx, hl, hlen, hf⟩ := DataW.trod_struct Tryz.underlying59 h
  have hC : Tryz.prog.cellsOf 59 = 8 := by kernel_rfl
  rw [hC] at hl
  obtain ⟨d0, d1, e0, e1, e2, e3, e4, e5, rfl⟩ : ∃ a b c d e f g h, cs = [a, b, c, d, e, f, g, h] := by
    match cs, hl with
    | [a, b, c, d, e, f, g, h], _ => exact ⟨a, b, c, d, e, f, g, h, rfl⟩
  obtain ⟨y0, y1, y2, rfl⟩ := len3 (show ys.length = 3 from hlen)
  have g0 := hf 0 _ rfl
  have g1 := hf 1 _ rfl
  have g2 := hf 2 _ rfl
  have c0 : Tryz.prog.cellsOf 9 = 1 := by kernel_rfl
  have c1 : Tryz.prog.cellsOf 38 = 1 := by kernel_rfl
  have c3 : Tryz.prog.cellsOf 50 = 6 := by kernel_rfl
  simp [c0] at g0
  simp [c1] at g1
  simp [c3] at g2
  obtain ⟨nm, q0, _, w0⟩ := DataW.trod_string Tryz.underlying9 g0
  obtain ⟨F, L, fc, q1, hrow, htx, hcap, hbl⟩ := row_txt g1
  obtain ⟨x, d, A, n, c, q3, hi, hb⟩ := row_ex _ g2
  simp only [List.cons.injEq, and_true] at q0
  unfold exC at q3
  simp only [List.cons.injEq, and_true] at q3
  obtain ⟨rfl, rfl, rfl, rfl, rfl, rfl⟩ := q3
  obtain rfl : d = x.d := ExS.is_d hi
  subst q0 q1
  refine ⟨⟨nm, L, F, fc, x, A, n, c⟩, rfl, ⟨w0, hrow, htx, by show L.length ≤ _; omega, hi⟩, hcap, ?_, ?_⟩
  all_goals
    subst hx
    simp only [List.map_cons, List.map_nil, Rows.uptoBulk, Rows.uptoBulkAll]
    omega
set_option maxRecDepth 100000 in
/-- The same of any value that is read so. -/
theorem row_pgs {H : Type} {enc : TypeId × Value → H} {W : World} {fuel : Nat} {v : Value} {d : DataW H} {p : List MemPlace}
    (hf : DataW.trod enc Tryz.prog W 0 (fun _ => true) true fuel 23 [v] = some (d, p)) :
    ∃ (A : Option Addr) (ps : List PE) (c : Nat), v = .slice A ps.length c ∧ Pgs W A ps ∧ (ps.length ≤ Rows.uptoBulk d ∧ ps.length ≤ maxLen ∧ ps.length ≤ c ∧ c ≤ maxLen) ∧ (∀ e ∈ ps, PgOk W e ∧ (e.fs.length ≤ e.fc ∧ e.fc ≤ maxLen) ∧ e.x.nodes ≤ Rows.uptoBulk d ∧ e.fs.length ≤ Rows.uptoBulk d) := by
  have hC : Tryz.prog.cellsOf 59 = 8 := by kernel_rfl
  rcases open_slice Tryz.underlying23 hf with ⟨e, _⟩ | ⟨a, n, c, m, f, D, Pl, e, _, hl, hc, hm, hx, hel⟩
  · injection e with e _
    subst e
    exact ⟨none, [], 0, rfl, fun i hi => absurd hi (by simp), ⟨Nat.zero_le _, Nat.zero_le _, Nat.zero_le _, Nat.zero_le _⟩, fun i hi => by simp at hi⟩
  · injection e with e _
    subst e
    have hx1 : d = .slice ((List.range n).map D) ((List.range (m - n)).map fun j => D (n + j)) := by injection hx
    have hlen : (List.range n).length = n := List.length_range
    have hb1 : Rows.uptoBulkAll ((List.range n).map D) ≤ Rows.uptoBulk d := by
      rw [hx1]; simp only [Rows.uptoBulk]; omega
    have hget : ∀ i, i < n → ∃ (e : PE), PgAt W (a.add (i * 8)) e ∧ (PgOk W e ∧ (e.fs.length ≤ e.fc ∧ e.fc ≤ maxLen) ∧ e.x.nodes ≤ Rows.uptoBulk d ∧ e.fs.length ≤ Rows.uptoBulk d) := fun i hi => by
      have hmi : i < m := by rw [hm]; split <;> omega
      obtain ⟨cs', hcs, htr⟩ := hel i hmi
      rw [hC] at hcs
      obtain ⟨_, hcl, hat⟩ := World.cells?_some hcs
      obtain ⟨e, rfl, hok, hcp, hb, hb2⟩ := row_pg htr
      unfold pgC at hat
      have hk : ∀ j, j ≠ 0 → (a.add (i * 8)).add j = ⟨(a.add (i * 8)).block, (a.add (i * 8)).off + j, none⟩ := fun j hj => ExO.addAdd _ j hj
      have h0 := hat 0 (by decide); have h1 := hat 1 (by decide); have h2 := hat 2 (by decide); have h3 := hat 3 (by decide); have h4 := hat 4 (by decide); have h5 := hat 5 (by decide); have h6 := hat 6 (by decide); have h7 := hat 7 (by decide)
      rw [hk _ (by decide)] at h1 h2 h3 h4 h5 h6 h7
      rw [show ∀ p : Addr, p.add 0 = p from fun p => by unfold Addr.add; rw [if_pos rfl]] at h0
      have hbi := bulk_at ((List.range n).map D) i (by simpa using hi)
      simp only [List.getElem_map, List.getElem_range] at hbi
      have hb' : e.x.nodes ≤ Rows.uptoBulk (D i) := hb
      have hb2' : e.fs.length ≤ Rows.uptoBulk (D i) := hb2
      exact ⟨e, ⟨h0, h1, h2, h3, h4, h5, h6, h7⟩, hok, hcp, by omega, by omega⟩
    obtain ⟨F, hF⟩ := Classical.axiomOfChoice (r := fun (i : Nat) (e : PE) => i < n → PgAt W (a.add (i * 8)) e ∧ (PgOk W e ∧ (e.fs.length ≤ e.fc ∧ e.fc ≤ maxLen) ∧ e.x.nodes ≤ Rows.uptoBulk d ∧ e.fs.length ≤ Rows.uptoBulk d)) (fun i => by
      by_cases hi : i < n
      · obtain ⟨f, hf⟩ := hget i hi; exact ⟨f, fun _ => hf⟩
      · exact ⟨⟨⟨#[]⟩, [], none, 0, .mk ⟨0, 0, 0, ⟨#[]⟩, ⟨#[]⟩⟩ [], none, 0, 0⟩, fun g => absurd g hi⟩)
    refine ⟨some a, (List.range n).map F, c, by rw [List.length_map, hlen], fun i hi => ⟨a, rfl, ?_⟩, ?_, fun e he => ?_⟩
    · simp at hi ⊢; exact (hF i hi).1
    · rw [List.length_map, hlen]
      have := bulk_len ((List.range n).map D)
      rw [List.length_map, hlen] at this
      exact ⟨by omega, by omega, hl, hc⟩
    · obtain ⟨i, hi, rfl⟩ := List.mem_map.1 he
      exact (hF i (List.mem_range.1 hi)).2
set_option maxRecDepth 100000 in
/-- A parameter that is a slice of pages: the pages as they lie, and what they hold. -/
theorem open_pgs {H : Type} {enc : TypeId × Value → H} {W : World} {base : Nat} {v : Value} {d : DataW H} {p : List MemPlace}
    (hv : Value.okWide Tryz.prog W .any base 23 v) (h : DataW.Trod enc Tryz.prog W 0 (fun _ => true) true 23 v d p) :
    ∃ (A : Option Addr) (ps : List PE) (c : Nat), v = .slice A ps.length c ∧ Pgs W A ps ∧ (ps.length ≤ Rows.uptoBulk d ∧ ps.length ≤ maxLen ∧ ps.length ≤ c ∧ c ≤ maxLen) ∧ (∀ e ∈ ps, PgOk W e ∧ (e.fs.length ≤ e.fc ∧ e.fc ≤ maxLen) ∧ e.x.nodes ≤ Rows.uptoBulk d ∧ e.fs.length ≤ Rows.uptoBulk d) := by
  obtain ⟨A, n, c, rfl⟩ := okWide_slice Tryz.underlying23 hv
  obtain ⟨fuel, hf⟩ := h
  exact row_pgs hf
end Go.Proofs.YtdefaeieiaegaaaGreatDoor.PgO
namespace Go.Proofs.YtdefaeieiaegaaaGreatDoor.FrmO
open Go.ChangeShapes Go.WideShapes Go.ChangeAt Go.RowKit Go.Deep
open ExM ExL ExO GenL FrmM PgM
set_option linter.unusedVariables false
set_option maxRecDepth 100000 in
/-- A parameter that is a form: its fields and its pages. -/
theorem open_frm {H : Type} {enc : TypeId × Value → H} {W : World} {base : Nat} {v : Value} {d : DataW H} {p : List MemPlace}
    (hv : Value.okWide Tryz.prog W .any base 25 v) (h : DataW.Trod enc Tryz.prog W 0 (fun _ => true) true 25 v d p) :
    ∃ (A : Option Addr) (fs : List GenL.Fd) (c : Nat) (PA : Option Addr) (ps : List PE) (pc : Nat), v = .agg #[.slice A fs.length c, .slice PA ps.length pc] ∧
      (Flds W A fs ∧ (fs.length ≤ Rows.uptoBulk d ∧ fs.length ≤ maxLen ∧ fs.length ≤ c ∧ c ≤ maxLen) ∧ (∀ (i : Nat) (h : i < fs.length), fs[i].nm.size ≤ maxLen ∧ ∃ x, Is W x fs[i].d fs[i].A fs[i].n ∧ x.nodes ≤ Rows.uptoBulk d)) ∧
      (Pgs W PA ps ∧ (ps.length ≤ Rows.uptoBulk d ∧ ps.length ≤ maxLen ∧ ps.length ≤ pc ∧ pc ≤ maxLen) ∧ (∀ e ∈ ps, PgOk W e ∧ (e.fs.length ≤ e.fc ∧ e.fc ≤ maxLen) ∧ e.x.nodes ≤ Rows.uptoBulk d ∧ e.fs.length ≤ Rows.uptoBulk d)) := by
  obtain ⟨cs, rfl, hsz⟩ := okWide_struct Tryz.underlying25 hv
  obtain ⟨fuel, hf0⟩ := h
  obtain ⟨ys, f1, hfu, hx, hl, hlen, hf⟩ := DataW.trod_struct Tryz.underlying25 hf0
  have hC : Tryz.prog.cellsOf 25 = 2 := by kernel_rfl
  rw [hC] at hl
  obtain ⟨d0, d1, e⟩ : ∃ a b, cs.toList = [a, b] := by
    match cs.toList, hl with
    | [a, b], _ => exact ⟨a, b, rfl⟩
  obtain rfl : cs = #[d0, d1] := by rw [← Array.toArray_toList (xs := cs), e]
  obtain ⟨y0, y1, rfl⟩ : ∃ a b, ys = [a, b] := by
    match ys, (show ys.length = 2 from hlen) with
    | [a, b], _ => exact ⟨a, b, rfl⟩
  have g0 := hf 0 _ rfl
  have g1 := hf 1 _ rfl
  have c0 : Tryz.prog.cellsOf 22 = 1 := by kernel_rfl
  have c1 : Tryz.prog.cellsOf 23 = 1 := by kernel_rfl
  simp [c0] at g0
  simp [c1] at g1
  obtain ⟨A, fs, c, rfl, p1, p2, p3⟩ := FldO.row_flds g0
  obtain ⟨PA, ps, pc, rfl, q1, q2, q3⟩ := PgO.row_pgs g1
  have hb : Rows.uptoBulk y0.1 ≤ Rows.uptoBulk d ∧ Rows.uptoBulk y1.1 ≤ Rows.uptoBulk d := by
    have hx1 : d = .agg [y0.1, y1.1] := by injection hx
    rw [hx1]
    simp only [Rows.uptoBulk, Rows.uptoBulkAll]
    omega
  refine ⟨A, fs, c, PA, ps, pc, rfl, ⟨p1, ⟨by omega, p2.2⟩, fun i hi => ⟨(p3 i hi).1, (p3 i hi).2.imp fun x hh => ⟨hh.1, by omega⟩⟩⟩, ⟨q1, ⟨by omega, q2.2⟩, fun e he => ⟨(q3 e he).1, (q3 e he).2.1, by have := (q3 e he).2.2.1; omega, by have := (q3 e he).2.2.2; omega⟩⟩⟩
end Go.Proofs.YtdefaeieiaegaaaGreatDoor.FrmO
