/- The reference's PagesFault. -/
import Derived.Test.YtdlfhldboagbeaaGreatDoorPg
import Derived.Deep.AppendLies
namespace Go.Proofs.YtdlfhldboagbeaaGreatDoor.PgR
open Go.RowKit Go.Maps
open ValM LexM NumM ExM NmM Kit ExL ExP ExN ExC NmC NmP NmA NmT RawV Within RawL GenL FldP FldR FldC FrmM TyM Ty TyO SMp PgM PgA PgB
set_option linter.unusedVariables false

set_option maxRecDepth 100000 in
set_option maxHeartbeats 8000000 in
theorem refPages_any (ps : List PE) (PA : Option Addr) (pc : Nat) (fs : List GenL.Fd) (FA : Option Addr) (fc : Nat) (w : World) (hm : fs.length ≤ 1048576) (hf : Flds w FA fs) (hp : Pgs w PA ps) (ho : PgsOk w ps) (hl : ps.length ≤ maxLen) (hlp : ∀ e ∈ ps, e.fs.length ≤ 1048576 ∧ e.x.nodes ≤ 1048576) :
    Calls Tryz.prog 28 #[.slice PA ps.length pc, .slice FA fs.length fc] w fun r w' => r = .returned (.int .i64 (checkP fs ps)) ∧ Below w.heap.size w w' := by
  obtain ⟨s0, hsi, hsz0, hsz1, hsz2⟩ := info_parts NmA.infoStr
  obtain ⟨R, hR⟩ : ∃ R, checkP fs ps = R := ⟨_, rfl⟩
  rw [hR]
  unfold checkP at hR
  by_cases h0 : ps.length = 0 ∨ 6 < ps.length
  · rw [if_pos h0] at hR
    subst hR
    by_cases h1 : ps.length = 0
    · rw [h1]
      clear hf hp ho hl hlp h0 h1
      go_enter Tryz.func28, Tryz.ntmps28
      go_wp2_with fail
      go_ret
      exact ⟨rfl, Below.refl _ _⟩
    · have t1 : ((ps.length : Int) == 0) = false := beq_eq_false_iff_ne.2 (by omega)
      have t2 : (6 : Int) < (ps.length : Int) := by omega
      clear hf hp ho hl hlp h0 h1
      go_enter Tryz.func28, Tryz.ntmps28
      go_wp2_with fail
      go_ret
      exact ⟨rfl, Below.refl _ _⟩
  · rw [if_neg h0] at hR
    have hn6 : 1 ≤ ps.length ∧ ps.length ≤ 6 := by omega
    have t1 : ((ps.length : Int) == 0) = false := beq_eq_false_iff_ne.2 (by omega)
    have t2 : ¬ (6 : Int) < (ps.length : Int) := by omega
    have hstop : ∀ k, k < ps.length → (∀ j, j < k → pageE fs ps j = 0) → pageE fs ps k ≠ 0 → R = pageE fs ps k := fun k hk h h0 => by rw [← hR]; exact scan_stop ps.length k hk h h0
    have hall : (∀ j, j < ps.length → pageE fs ps j = 0) → R = 0 := fun h => by rw [← hR]; exact scan_zero ps.length h
    have HStop := Lib.hid hstop
    have HAll := Lib.hid hall
    have HF := Lib.hid hf
    have HP := Lib.hid hp
    have HO := Lib.hid ho
    have HLp := Lib.hid hlp
    clear hstop hall hf hp ho hlp hR h0
    go_enter Tryz.func28, Tryz.ntmps28
    go_wp2_with fail
    go_loopw [5, 22] (fun mt ii wr => ∃ (k : Nat) (A : Option Addr) (c ml : Nat), ii = .int .i64 k ∧ k ≤ ps.length ∧ mt = .slice A ml c ∧ ml ≤ k * 1048576 ∧ (metP ps k).length = ml ∧ (∀ j, j < k → pageE fs ps j = 0) ∧ wr.ownsRow w.heap.size 9 1 (.slice A ml c) ml (strV (metP ps k)) ∧ Below w.heap.size w wr) (fun _ ii _ => ps.length - (intOf ii).toNat)
    case atStart => exact ⟨0, none, 0, 0, rfl, Nat.zero_le _, rfl, Nat.zero_le _, rfl, fun j hj => absurd hj (by omega), World.ownsRow_nil _ _ _ _, Below.refl _ _⟩
    case round =>
      obtain ⟨k, A, c, ml, rfl, hk, rfl, hml, hmtl, hzr, hown, hb⟩ := hrel
      obtain ⟨wa, rfl⟩ : ∃ V, V = wr := ⟨_, rfl⟩
      by_cases hlt : k < ps.length
      · obtain ⟨ad, rfl, hat⟩ := HP.out.below hb k hlt
        have hoe := HO.out ps[k] (List.getElem_mem hlt)
        have hle := HLp.out ps[k] (List.getElem_mem hlt)
        have hpe : pageE fs ps k = (if LexB.nameE ps[k].nm.data.toList = 0 then (if pAt ps ps[k].nm < k then 6 else if scan (nameE fs (metP ps k) ps[k].fs) ps[k].fs.length = 0 then (if bareB ps[k].x.d ps[k].m = true then 0 else fitsT (fts fs) ps[k].x 2) else scan (nameE fs (metP ps k) ps[k].fs) ps[k].fs.length) else LexB.nameE ps[k].nm.data.toList) := by unfold pageE; rw [dif_pos hlt]
        have hstop := HStop.out k hlt hzr
        have hnext : pageE fs ps k = 0 → ∀ j, j < k + 1 → pageE fs ps j = 0 := fun e j hj => by
          by_cases h : j = k
          · subst h; exact e
          · exact hzr j (by omega)
        have hms := metP_succ ps k hlt
        obtain ⟨e, hek⟩ : ∃ e, ps[k] = e := ⟨_, rfl⟩
        rw [hek] at hat hoe hle hpe hms
        obtain ⟨q0, q1, q2, q3, q4, q5, q6, q7⟩ := hat
        obtain ⟨W5, hW5⟩ : ∃ V, wa.alloc (.cells #[.string e.nm, .slice e.F e.fs.length e.fc, .int .i64 e.x.d.op, .int .i64 e.x.d.k, .int .i64 e.x.d.n, .string e.x.d.s, .string e.x.d.nm, .slice e.B e.m e.c] 62) = V := ⟨_, rfl⟩
        obtain ⟨B9, hB9⟩ : ∃ B, wa.heap.size = B := ⟨_, rfl⟩
        have hb5 := b_new wa (.cells #[.string e.nm, .slice e.F e.fs.length e.fc, .int .i64 e.x.d.op, .int .i64 e.x.d.k, .int .i64 e.x.d.n, .string e.x.d.s, .string e.x.d.nm, .slice e.B e.m e.c] 62)
        have hblk : W5.heap[B9]? = some (.cells #[.string e.nm, .slice e.F e.fs.length e.fc, .int .i64 e.x.d.op, .int .i64 e.x.d.k, .int .i64 e.x.d.n, .string e.x.d.s, .string e.x.d.nm, .slice e.B e.m e.c] 62 (0, 0)) := by
          have h1 := World.alloc_heap_new wa (.cells #[.string e.nm, .slice e.F e.fs.length e.fc, .int .i64 e.x.d.op, .int .i64 e.x.d.k, .int .i64 e.x.d.n, .string e.x.d.s, .string e.x.d.nm, .slice e.B e.m e.c] 62)
          rw [hW5, hB9] at h1
          exact h1
        rw [hW5] at hb5
        have hcells : ∀ V : World, V.heap[B9]? = some (.cells #[.string e.nm, .slice e.F e.fs.length e.fc, .int .i64 e.x.d.op, .int .i64 e.x.d.k, .int .i64 e.x.d.n, .string e.x.d.s, .string e.x.d.nm, .slice e.B e.m e.c] 62 (0, 0)) → V.cell? ⟨B9, 0, none⟩ = some (.string e.nm) ∧ V.cell? ⟨B9, 1, none⟩ = some (.slice e.F e.fs.length e.fc) ∧ V.cell? ⟨B9, 2, none⟩ = some (.int .i64 e.x.d.op) ∧ V.cell? ⟨B9, 3, none⟩ = some (.int .i64 e.x.d.k) ∧ V.cell? ⟨B9, 4, none⟩ = some (.int .i64 e.x.d.n) ∧ V.cell? ⟨B9, 5, none⟩ = some (.string e.x.d.s) ∧ V.cell? ⟨B9, 6, none⟩ = some (.string e.x.d.nm) ∧ V.cell? ⟨B9, 7, none⟩ = some (.slice e.B e.m e.c) := fun V h => ⟨by simp [World.cell?, h], by simp [World.cell?, h], by simp [World.cell?, h], by simp [World.cell?, h], by simp [World.cell?, h], by simp [World.cell?, h], by simp [World.cell?, h], by simp [World.cell?, h]⟩
        have hown5 := GenL.own_below hown hb5
        have hobl : ∀ g, (Value.slice A ml c).ownBlock = some g → g ≠ B9 := fun g hg => by have := (hown.lt g hg).2; omega
        have hbw5 := b_trans hb hb5
        have hnm := LexB.refName_any e.nm W5 hoe.nm
        have hpa : ∀ V, Below w.heap.size w V → Calls Tryz.prog 61 #[.slice (some ad) ps.length pc, .string e.nm] V fun r w' => r = .returned (.int .i64 (pAt ps e.nm : Int)) ∧ Below V.heap.size V w' := fun V hV => pageAt_any e.nm ps (some ad) pc V hl (HP.out.below hV)
        have hfa : ∀ (s : ByteArray) V, Below w.heap.size w V → Calls Tryz.prog 59 #[.slice FA fs.length fc, .string s] V fun r w' => r = .returned (.int .i64 (atF fs s : Int)) ∧ Below V.heap.size V w' := fun s V hV => refAt_any s fs FA fc V (HF.out.below hV) (by omega)
        have hsk : ∀ V, Below w.heap.size w V → Calls Tryz.prog 63 #[.agg #[.int .i64 e.x.d.op, .int .i64 e.x.d.k, .int .i64 e.x.d.n, .string e.x.d.s, .string e.x.d.nm, .slice e.B e.m e.c], .slice FA fs.length fc, .int .i64 2] V fun r w' => r = .returned (.int .i64 (fitsT (fts fs) e.x 2)) ∧ Below V.heap.size V w' := fun V hV => TyRT.refFits_any e.x fs FA fc 2 e.x.d e.B e.m e.c V hle.2 (by omega) (hoe.skip.below hV) (HF.out.below hV)
        have hbr := fun V => FldR.refBare_any e.x.d e.B e.m e.c V
        have htr : ∀ V, Below w.heap.size w V → TRow V e.F e.fs := fun V hV => hoe.row.below hV
        obtain ⟨x0, x1, x2, x3, x4, x5, x6, x7⟩ := hcells W5 hblk
        have HNm := Lib.hid hnm
        have HPa := Lib.hid hpa
        have HFa := Lib.hid hfa
        have HSk := Lib.hid hsk
        have HBr := Lib.hid hbr
        have HTr := Lib.hid htr
        have HBlk := Lib.hid hblk
        have HCells := Lib.hid hcells
        have HOwn5 := Lib.hid hown5
        have HObl := Lib.hid hobl
        have HBw5 := Lib.hid hbw5
        have HPe := Lib.hid hpe
        have HStop2 := Lib.hid hstop
        have HNx := Lib.hid hnext
        have HMs := Lib.hid hms
        have HMl := Lib.hid hmtl
        have HW5 := Lib.hid hW5
        have HB9 := Lib.hid hB9
        have HLe := Lib.hid hle
        have hki : (k : Int) < (ps.length : Int) := by omega
        clear hnm hpa hfa hsk hbr htr hblk hcells hown5 hobl hbw5 hpe hstop hnext hms hmtl hW5 hB9 hle hoe hown hb hb5 hzr hek
        generalize LexB.nameE e.nm.data.toList = ne at HNm HPe
        generalize e.F = eF at *
        by_cases h0 : ne = 0
        · subst h0
          go_upto_region 7 with fail
          rw [HW5.out, HB9.out]
          go_wp2_with fail
          refine HNm.out.mono ?_; rintro r w6 ⟨rfl, hb6⟩
          have hblk6 := (hb6.block B9 (Array.getElem?_eq_some_iff.1 HBlk.out).1).trans HBlk.out
          obtain ⟨x0, x1, x2, x3, x4, x5, x6, x7⟩ := HCells.out w6 hblk6
          have hbw6 := b_trans HBw5.out hb6
          have HPa6 := Lib.hid (HPa.out w6 hbw6)
          have HO6 := Lib.hid (And.intro hblk6 (And.intro (GenL.own_below HOwn5.out hb6) hbw6))
          clear hblk6 hbw6 hb6
          go_wp2_with fail
          refine HPa6.out.mono ?_; rintro r w7 ⟨rfl, hb7⟩
          have hblk7 := (hb7.block B9 (Array.getElem?_eq_some_iff.1 HO6.out.1).1).trans HO6.out.1
          obtain ⟨x0, x1, x2, x3, x4, x5, x6, x7⟩ := HCells.out w7 hblk7
          have hbw7 := b_trans HO6.out.2.2 hb7
          have HO7 := Lib.hid (And.intro hblk7 (And.intro (GenL.own_below HO6.out.2.1 hb7) hbw7))
          clear hblk7 hbw7 hb7
          by_cases hd : pAt ps e.nm < k
          · have h6 : pageE fs ps k = 6 := by first | rw [HPe.out, if_pos rfl, if_pos hd] | rw [HPe.out, if_pos trivial, if_pos hd]
            obtain rfl := (HStop2.out (by rw [h6]; decide)).trans h6
            have t3 : (pAt ps e.nm : Int) < (k : Int) := by omega
            clear h6 hd
            go_wp2_with fail
            go_ret
            exact ⟨rfl, HO7.out.2.2⟩
          · have hpe2 : pageE fs ps k = (if scan (nameE fs (metP ps k) e.fs) e.fs.length = 0 then (if bareB e.x.d e.m = true then 0 else fitsT (fts fs) e.x 2) else scan (nameE fs (metP ps k) e.fs) e.fs.length) := by first | rw [HPe.out, if_pos rfl, if_neg hd] | rw [HPe.out, if_pos trivial, if_neg hd]
            have t3 : ¬ (pAt ps e.nm : Int) < (k : Int) := by omega
            have hname : ∀ j, j < e.fs.length → (∀ i, i < j → nameE fs (metP ps k) e.fs i = 0) → nameE fs (metP ps k) e.fs j ≠ 0 → R = nameE fs (metP ps k) e.fs j := fun j hj hz h1 => by
              have h2 := scan_stop e.fs.length j hj hz h1
              have h3 : pageE fs ps k = nameE fs (metP ps k) e.fs j := by rw [hpe2, h2, if_neg h1]
              exact (HStop2.out (by rw [h3]; exact h1)).trans h3
            have hgood : (∀ j, j < e.fs.length → nameE fs (metP ps k) e.fs j = 0) → pageE fs ps k = (if bareB e.x.d e.m = true then 0 else fitsT (fts fs) e.x 2) := fun h => by rw [hpe2, scan_zero _ h, if_pos rfl]
            have HName := Lib.hid hname
            have HGood := Lib.hid hgood
            have hst0 : w7.ownsRow w.heap.size 9 1 (.slice A ml c) ml (strV (metP ps k ++ e.fs.take 0)) := by rw [List.take_zero, List.append_nil]; exact HO7.out.2.1
            have HSt0 := Lib.hid hst0
            clear hpe2 HPe hname hgood hst0
            go_wp2_with fail
            clear hd
            go_loopw [5, 42] (fun mt ii wr => ∃ (j : Nat) (A : Option Addr) (c nl : Nat), ii = .int .i64 j ∧ j ≤ e.fs.length ∧ mt = .slice A nl c ∧ nl = ml + j ∧ (∀ i, i < j → nameE fs (metP ps k) e.fs i = 0) ∧ wr.ownsRow w.heap.size 9 1 (.slice A nl c) nl (strV (metP ps k ++ e.fs.take j)) ∧ (∀ g, (Value.slice A nl c).ownBlock = some g → g ≠ B9) ∧ wr.heap[B9]? = some (.cells #[.string e.nm, .slice eF e.fs.length e.fc, .int .i64 e.x.d.op, .int .i64 e.x.d.k, .int .i64 e.x.d.n, .string e.x.d.s, .string e.x.d.nm, .slice e.B e.m e.c] 62 (0, 0)) ∧ Below w.heap.size w wr) (fun _ ii _ => e.fs.length - (intOf ii).toNat)
            case atStart => exact ⟨0, A, c, ml, rfl, Nat.zero_le _, rfl, by omega, fun j hj => absurd hj (by omega), HSt0.out, HObl.out, HO7.out.1, HO7.out.2.2⟩
            case round =>
              obtain ⟨j, A, c, nl, rfl, hj, rfl, hnl, hzj, hown, hob, hblk, hbw⟩ := hrel
              obtain ⟨wb, rfl⟩ : ∃ V, V = wr := ⟨_, rfl⟩
              by_cases hjl : j < e.fs.length
              · obtain ⟨a2, rfl, hc⟩ := HTr.out wb hbw j hjl
                have hname := HName.out j hjl hzj
                have hnxj : nameE fs (metP ps k) e.fs j = 0 → ∀ i, i < j + 1 → nameE fs (metP ps k) e.fs i = 0 := fun e9 i hi => by
                  by_cases h : i = j
                  · subst h; exact e9
                  · exact hzj i (by omega)
                have hne : nameE fs (metP ps k) e.fs j = (if atF fs e.fs[j] < fs.length then (if hasB (metP ps k ++ e.fs.take j) e.fs[j] = true then 6 else 0) else 5) := by unfold nameE; rw [dif_pos hjl]
                have htk : metP ps k ++ e.fs.take (j + 1) = metP ps k ++ e.fs.take j ++ [e.fs[j]] := by rw [List.take_succ_eq_append_getElem hjl, List.append_assoc]
                have hml2 : (metP ps k ++ e.fs.take j).length = nl := by rw [List.length_append, HMl.out, List.length_take]; omega
                obtain ⟨t, ht⟩ : ∃ t, e.fs[j] = t := ⟨_, rfl⟩
                rw [ht] at hc hne htk
                have hji : (j : Int) < (e.fs.length : Int) := by omega
                have HFa8 := Lib.hid (HFa.out t wb hbw)
                have HName2 := Lib.hid hname
                have HNxj := Lib.hid hnxj
                have HNe := Lib.hid hne
                have HTk := Lib.hid htk
                have HMl2 := Lib.hid hml2
                have HOwn := Lib.hid hown
                have HOb := Lib.hid hob
                have HBk := Lib.hid hblk
                have HBw := Lib.hid hbw
                have HNl := Lib.hid hnl
                have HJl := Lib.hid hjl
                have hj6 : e.fs.length ≤ 1048576 := HLe.out.1
                have hnl7 : nl ≤ 7 * 1048576 := by have := HLe.out.1; have : k * 1048576 ≤ 6 * 1048576 := Nat.mul_le_mul_right _ (by omega); omega
                clear hname hnxj hne htk hml2 hown hob hblk hbw ht hzj hnl
                go_wp2_with fail
                refine HFa8.out.mono ?_; rintro r w8 ⟨rfl, hb8⟩
                have hown8 := GenL.own_below HOwn.out hb8
                have hbw8 := b_trans HBw.out hb8
                have hblk8 := (hb8.block B9 (Array.getElem?_eq_some_iff.1 HBk.out).1).trans HBk.out
                by_cases hat2 : atF fs t < fs.length
                · have t4 : ((atF fs t : Int) == (fs.length : Int)) = false := beq_eq_false_iff_ne.2 (by omega)
                  obtain ⟨A', c', ev, hsr⟩ := SRow.of_own (L := metP ps k ++ e.fs.take j) (by rw [HMl2.out]; exact hown8)
                  rw [HMl2.out] at ev
                  injection ev with ev1 ev2 ev3
                  subst ev1 ev3
                  have hho := holdsT_any (metP ps k ++ e.fs.take j) t A c w8 (by rw [HMl2.out]; unfold maxLen; omega) (TRow.of_srow hsr)
                  rw [HMl2.out] at hho
                  have HHo := Lib.hid hho
                  have HNe2 := Lib.hid (HNe.out.trans (if_pos hat2))
                  have HO8 := Lib.hid (And.intro hown8 (And.intro hbw8 hblk8))
                  clear hho hsr ev2 hown8 hbw8 hblk8 hb8 hat2
                  cases hB : hasB (metP ps k ++ e.fs.take j) t with
                  | true =>
                    rw [hB] at HHo HNe2
                    have h6 : nameE fs (metP ps k) e.fs j = 6 := HNe2.out.trans (if_pos rfl)
                    obtain rfl := (HName2.out (by rw [h6]; decide)).trans h6
                    clear h6 hB
                    go_wp2_with fail
                    refine HHo.out.mono ?_; rintro r w9 ⟨rfl, rfl⟩
                    go_wp2_with fail
                    go_ret
                    exact ⟨rfl, HO8.out.2.1⟩
                  | false =>
                    rw [hB] at HHo HNe2
                    have h6 : nameE fs (metP ps k) e.fs j = 0 := HNe2.out.trans (if_neg (by decide))
                    have hnj := HNxj.out h6
                    have hgr : ∀ gg cap w7, w7.ownsRow w.heap.size 9 1 (.slice (some ⟨gg, 0, none⟩) (nl + 1) cap) (nl + 1) (strV (metP ps k ++ e.fs.take j) ++ [.string t]) → (w8.alloc (.cells #[.string t] 9)).grownBy w7 (Value.slice A nl c).ownBlock → ((Value.slice A nl c).ownBlock = some gg ∨ gg = w8.heap.size + 1) →
                        w7.ownsRow w.heap.size 9 1 (.slice (some ⟨gg, 0, none⟩) (nl + 1) cap) (nl + 1) (strV (metP ps k ++ e.fs.take (j + 1))) ∧ (∀ g, (Value.slice (some ⟨gg, 0, none⟩) (nl + 1) cap).ownBlock = some g → g ≠ B9) ∧ w7.heap[B9]? = some (.cells #[.string e.nm, .slice (some a2) e.fs.length e.fc, .int .i64 e.x.d.op, .int .i64 e.x.d.k, .int .i64 e.x.d.n, .string e.x.d.s, .string e.x.d.nm, .slice e.B e.m e.c] 62 (0, 0)) ∧ Below w.heap.size w w7 := fun gg cap w7 h1 h2 h3 => by
                      have hb9l := (Array.getElem?_eq_some_iff.1 HO8.out.2.2).1
                      have hbb := b_trans HO8.out.2.1 (b_new w8 (.cells #[.string t] 9))
                      refine ⟨by rw [HTk.out, strV_append]; exact h1, fun g hg => ?_, ?_, hbb.grown h2 hbb.size (fun q e => (HO8.out.1.lt q e).1)⟩
                      · have eg : g = gg := by
                          have : (some gg : Option Nat) = some g := hg
                          injection this with this; exact this.symm
                        subst eg
                        rcases h3 with h3 | h3
                        · exact HOb.out g h3
                        · omega
                      · exact (h2.block B9 (by simp; omega) (fun e9 => HOb.out B9 e9.symm rfl)).trans (((b_new w8 _).block B9 hb9l).trans HO8.out.2.2)
                    have hownA := fun o : Obj => HO8.out.1.alloc o
                    have hszw := HO8.out.2.1.size
                    have HGr := Lib.hid hgr
                    have HOwnA := Lib.hid hownA
                    have HNj := Lib.hid hnj
                    clear h6 hB hnj hgr hownA
                    generalize metP ps k ++ e.fs.take j = pth at HOwnA HGr HHo
                    go_wp2_with (first
                      | (go_at_call 58; refine HHo.out.mono ?_; rintro r w9 ⟨rfl, rfl⟩)
                      | (at_builtin; refine wpList_append_lies _ rfl _ _ 34 rfl w.heap.size 9 s0 (.string ⟨#[]⟩) 1 16 Tryz.underlying34 hsi hsz0 hsz1 hsz2 rfl (by decide) (.slice A nl c) nl (strV pth) rfl (HOwnA.out _) ⟨w8.heap.size, 0, none⟩ 1 1 [.string t] rfl rfl (World.news_of_block (cs := #[.string t]) (t := 9) (fr := (0, 0)) (World.alloc_heap_new w8 _)) (by simp [Value.oneCell']) (by decide) (by unfold maxLen; omega) (by omega) (by simp; omega) (w8.heap.size + 1) (by simp) ?_))
                    intro gg cap w9 hown9 hgrow9 hat9 _
                    have HN := Lib.hid (HGr.out gg cap w9 hown9 hgrow9 hat9)
                    clear hown9 hgrow9 hat9
                    go_wp2_with fail
                    go_roundw
                    case rel => exact ⟨j + 1, some ⟨gg, 0, none⟩, cap, nl + 1, by go_num, HJl.out, rfl, by have := HNl.out; omega, HNj.out, HN.out.1, HN.out.2.1, HN.out.2.2.1, HN.out.2.2.2⟩
                    case measure => have := HJl.out; simp [intOf]; omega
                · have hat3 : atF fs t = fs.length := by have := atF_le fs t; omega
                  have t4 : ((atF fs t : Int) == (fs.length : Int)) = true := beq_iff_eq.2 (by omega)
                  have h6 : nameE fs (metP ps k) e.fs j = 5 := by rw [HNe.out, if_neg hat2]
                  obtain rfl := (HName2.out (by rw [h6]; decide)).trans h6
                  have HB8 := Lib.hid hbw8
                  clear h6 hat2 hat3 hown8 hbw8 hblk8 hb8
                  go_wp2_with fail
                  go_ret
                  exact ⟨rfl, HB8.out⟩
              · have ej : j = e.fs.length := by omega
                have hgood := HGood.out fun i hi => hzj i (by omega)
                have hms : metP ps k ++ e.fs.take j = metP ps (k + 1) := by rw [ej, List.take_length]; exact HMs.out.symm
                rw [hms] at hown
                have hml3 : nl ≤ (k + 1) * 1048576 ∧ (metP ps (k + 1)).length = nl := by
                  have := HLe.out.1
                  rw [← hms, List.length_append, HMl.out, List.length_take, Nat.add_mul, Nat.one_mul]
                  omega
                obtain ⟨x0, x1, x2, x3, x4, x5, x6, x7⟩ := HCells.out wb hblk
                have HGood2 := Lib.hid hgood
                have HOwn := Lib.hid hown
                have HMl3 := Lib.hid hml3
                have HBk := Lib.hid hblk
                have HBw := Lib.hid hbw
                have HBr2 := Lib.hid (HBr.out wb)
                clear hgood hms hown hml3 hblk hbw hzj hob hnl
                generalize bareB e.x.d e.m = bb at HBr2 HGood2
                go_wp2_with fail
                refine HBr2.out.mono ?_; rintro r w8 ⟨rfl, hb8⟩
                have hown8 := GenL.own_below HOwn.out hb8
                have hbw8 := b_trans HBw.out hb8
                have hblk8 := (hb8.block B9 (Array.getElem?_eq_some_iff.1 HBk.out).1).trans HBk.out
                obtain ⟨x0, x1, x2, x3, x4, x5, x6, x7⟩ := HCells.out w8 hblk8
                have HO8 := Lib.hid (And.intro hown8 hbw8)
                clear hown8 hbw8 hblk8 hb8
                cases bb with
                | true =>
                  have h6 : pageE fs ps k = 0 := HGood2.out.trans (if_pos rfl)
                  have HN := Lib.hid (HNx.out h6)
                  clear h6
                  go_wp2_with fail
                  go_roundw
                  case rel => exact ⟨k + 1, A, c, nl, by go_num, by omega, rfl, HMl3.out.1, HMl3.out.2, HN.out, HO8.out.1, HO8.out.2⟩
                  case measure => simp [intOf]; omega
                | false =>
                  have h6 : pageE fs ps k = fitsT (fts fs) e.x 2 := HGood2.out.trans (if_neg (by decide))
                  have hsk8 := HSk.out w8 HO8.out.2
                  generalize fitsT (fts fs) e.x 2 = ft at hsk8 h6
                  have HSk8 := Lib.hid hsk8
                  clear hsk8
                  go_wp2_with fail
                  refine HSk8.out.mono ?_; rintro r w9 ⟨rfl, hb9⟩
                  have HO9 := Lib.hid (And.intro (GenL.own_below HO8.out.1 hb9) (b_trans HO8.out.2 hb9))
                  clear hb9 x0 x1 x2 x3 x4 x5 x6 x7
                  by_cases h1 : ft = 0
                  · subst h1
                    have HN := Lib.hid (HNx.out h6)
                    clear h6
                    go_wp2_with fail
                    go_roundw
                    case rel => exact ⟨k + 1, A, c, nl, by go_num, by omega, rfl, HMl3.out.1, HMl3.out.2, HN.out, HO9.out.1, HO9.out.2⟩
                    case measure => simp [intOf]; omega
                  · obtain rfl := (HStop2.out (by rw [h6]; exact h1)).trans h6
                    have t5 : (R != 0) = true := bne_iff_ne.2 h1
                    clear h6 h1
                    go_wp2_with fail
                    go_ret
                    exact ⟨rfl, HO9.out.2⟩
        · have h6 : pageE fs ps k = ne := by rw [HPe.out, if_neg h0]
          obtain rfl := (HStop2.out (by rw [h6]; exact h0)).trans h6
          have t3 : (R != 0) = true := bne_iff_ne.2 h0
          clear h6 h0
          go_upto_region 7 with fail
          rw [HW5.out, HB9.out]
          go_wp2_with fail
          refine HNm.out.mono ?_; rintro r w6 ⟨rfl, hb6⟩
          have HB6 := Lib.hid (b_trans HBw5.out hb6)
          clear hb6
          go_wp2_with fail
          go_ret
          exact ⟨rfl, HB6.out⟩
      · obtain rfl := HAll.out fun j hj => hzr j (by omega)
        have HB := Lib.hid hb
        clear hzr hb hown hmtl
        go_wp2_with fail
        go_ret
        exact ⟨rfl, HB.out⟩
end Go.Proofs.YtdlfhldboagbeaaGreatDoor.PgR
