/- The parser's methods atom and prefixed. -/
import Derived.Test.YtjjchbafobcofaaGreatDoorPsList
namespace Go.Proofs.YtjjchbafobcofaaGreatDoor.PsA
open Go.RowKit
open LexM ExM Kit ExL ExP PsM PsT NmC Ps PsR PsL
set_option linter.unusedVariables false

section
variable {w0 : World} {P : Nat} {A : Option Addr} {c : Nat} {L : List Tk} {w : World} {k : Nat}
set_option maxHeartbeats 2000000 in
theorem list_no (hE : Env w0 P A L) (n : Nat) (hS : St w0 P A c L w k) (hop : isNext [40] (L.drop k) = false) :
    Calls Tryz.prog 67 #[.pointer (some ⟨P, 0, none⟩), .int .i64 (n : Int)] w (BadX P w (L.drop k)) := by
  have HX := Lib.hid (expect_no hE hS ⟨#[40]⟩ hop)
  clear hS hE hop
  go_enter Tryz.func67, Tryz.ntmps67
  go_wp2_with fail
  refine HX.out.mono ?_; rintro e w3 ⟨v, rfl, hw, mm, rfl⟩
  have HW := Lib.hid hw
  clear hw
  go_wp2_with fail
  exact ⟨rfl, v, rfl, HW.out, grown_below (b_drewN (Below.refl _ _) _) _⟩
theorem opAt6 {s : List UInt8} {op : Nat} (h : PsM.opAt 6 s = some op) (hs : s ≠ []) : op < 19 ∧ (op = 17 ∨ op = 18) ∧ (rw_ op).2.2 = (arity op : Int) ∧ arity op ≤ 3 ∧ 1 ≤ arity op := by
  obtain ⟨h1, h3, ⟨h2, _⟩, _⟩ := opAt_some h hs
  obtain rfl | rfl | rfl | rfl | rfl | rfl | rfl | rfl | rfl | rfl | rfl | rfl | rfl | rfl | rfl | rfl : op = 3 ∨ op = 4 ∨ op = 5 ∨ op = 6 ∨ op = 7 ∨ op = 8 ∨ op = 9 ∨ op = 10 ∨ op = 11 ∨ op = 12 ∨ op = 13 ∨ op = 14 ∨ op = 15 ∨ op = 16 ∨ op = 17 ∨ op = 18 := by omega
  all_goals first
    | exact ⟨by decide, .inl rfl, rfl, by decide, by decide⟩
    | exact ⟨by decide, .inr rfl, rfl, by decide, by decide⟩
    | exact absurd h2 (by decide)
/-- The world behind the result's box. -/
theorem box_new (hS : St w0 P A c L w k) : St w0 P A c L (w.alloc (.cells #[.int .i64 0, .int .i64 0, .int .i64 0, .string ⟨#[]⟩, .string ⟨#[]⟩, .slice none 0 0] 26)) k := hS.keep (b_new _ _)
/-- The result, stored behind a call at a world V that holds the box. -/
theorem fin_box {V w1 : World} {k' : Nat} {x : Ex} {d : Nd} {B : Option Addr} {m cp : Nat} (hS : St w0 P A c L w k) (hE : Env w0 P A L) (hV : w.grownBy V (some P)) (hz : Boxz V w.heap.size) (hx : IsP (fun b => V.heap.size ≤ b) w1 x d B m) (hS1 : St w0 P A c L w1 k') (hg : V.grownBy w1 (some P)) :
    Boxz w1 w.heap.size ∧ (IsP (fun b => w.heap.size ≤ b) (S6 w1 w.heap.size (.int .i64 d.op) (.int .i64 d.k) (.int .i64 d.n) (.string d.s) (.string d.nm) (.slice B m cp)) x d B m ∧ St w0 P A c L (S6 w1 w.heap.size (.int .i64 d.op) (.int .i64 d.k) (.int .i64 d.n) (.string d.s) (.string d.nm) (.slice B m cp)) k' ∧ w.grownBy (S6 w1 w.heap.size (.int .i64 d.op) (.int .i64 d.k) (.int .i64 d.n) (.string d.s) (.string d.nm) (.slice B m cp)) (some P)) := by
  have hl := hS.lt
  have hzl := (Array.getElem?_eq_some_iff.1 hz).1
  have hbz := boxz_grown hz hg (by omega)
  exact ⟨hbz, put_res hS hE.hP (hx.imp fun b hb _ => by have h1 : V.heap.size ≤ b := hb; omega) hS1 hbz (grown_trans hV hg)⟩

set_option maxRecDepth 100000 in
set_option maxHeartbeats 8000000 in
theorem atom_any (hE : Env w0 P A L) (hFu : Full L) (hSm : Small L) (F : Nat) (hF : ∀ f, f ≤ F → FormC w0 P A c L f) (f : Nat) (hf : f ≤ F) (o : Out) (hS : St w0 P A c L w k) (h5 : opNext 5 (L.drop k) = none) (hrun : run (f + 1) (.form 5) (L.drop k) = o) (hne : o ≠ .tired) :
    Calls Tryz.prog 55 #[.pointer (some ⟨P, 0, none⟩)] w (PsL.Ends w0 P A c L w k o) := by
  have hl := hS.lt
  obtain ⟨V, hV⟩ : ∃ V, w.alloc (.cells #[.int .i64 0, .int .i64 0, .int .i64 0, .string ⟨#[]⟩, .string ⟨#[]⟩, .slice none 0 0] 26) = V := ⟨_, rfl⟩
  have hSV := box_new hS
  have hzV := boxz_at w
  have hbV := b_new w (.cells #[.int .i64 0, .int .i64 0, .int .i64 0, .string ⟨#[]⟩, .string ⟨#[]⟩, .slice none 0 0] 26)
  rw [hV] at hSV hzV hbV
  have hI := isNext_c hE hSV ⟨#[40]⟩
  cases hd : L.drop k with
  | nil =>
    obtain rfl := drop_nil hd hS.le
    rw [hd] at hrun hI
    have ho : o = .bad [] := by rw [← hrun]; simp [run]
    subst ho
    have HI := Lib.hid hI
    have HV := Lib.hid hV
    have HSV := Lib.hid hSV
    have HBV := Lib.hid hbV
    clear hrun hI hV hbV hzV hF hS
    go_enter Tryz.func55, Tryz.ntmps55
    go_wp2_with fail
    rw [HV.out]
    refine HI.out.mono ?_; rintro e w1 ⟨rfl, m, rfl⟩
    have HO := Lib.hid (operator_no hE (hSV.drew m) hFu 6 (by omega) (by rw [hd]; rfl))
    go_wp2_with fail
    refine HO.out.mono ?_; rintro e w2 ⟨rfl, hb2⟩
    have hS2 := (hSV.drew m).keep hb2
    have HX := Lib.hid (single_end hE hS2)
    have HB2 := Lib.hid (HBV.out.trans ((b_drewN (Below.refl V.heap.size V) m).mono HBV.out.size |>.trans (hb2.mono HBV.out.size)))
    clear hS2 hb2 HO
    go_wp2_with fail
    refine HX.out.mono ?_; rintro e w3 ⟨v, rfl, hw, hg⟩
    have HW := Lib.hid (And.intro hw hg)
    clear hw hg
    go_wp2_with fail
    exact ⟨rfl, v, rfl, HW.out.1, grown_trans (grown_below HB2.out _) HW.out.2⟩
  | cons t r =>
    obtain ⟨hk, ht, hr⟩ := drop_cons hd
    have hrun2 : (if t.s = [40] then run f (.list 1 []) r else match PsM.opAt 6 t.s with
            | some op => if isNext [40] r then wrap op (run f (.list (arity op) []) r.tail) else .bad r
            | none => match leafN t with
              | some x => .ok [x] r
              | none => .bad (t :: r)) = o := by
      have h5' : PsM.opAt 5 t.s = none := by rw [hd] at h5; exact h5
      rw [hd] at hrun
      simp only [run, if_true, h5'] at hrun
      exact hrun
    clear hrun
    have hts : t.s ≠ [] := hFu t (by rw [ht]; exact List.getElem_mem _)
    rw [hd] at hI
    by_cases hp : t.s = [40]
    · rw [if_pos hp] at hrun2
      have e1 : isNext (ByteArray.mk #[40]).data.toList (t :: r) = true := decide_eq_true hp
      have e2 : isNext [40] (L.drop k) = true := by rw [hd]; exact decide_eq_true hp
      rw [e1] at hI
      rw [hr] at hrun2
      have HI := Lib.hid hI
      have HV := Lib.hid hV
      have HBV := Lib.hid hbV
      have HZ := Lib.hid hzV
      have HS := Lib.hid hS
      have hL : ∀ m, Calls Tryz.prog 67 #[.pointer (some ⟨P, 0, none⟩), .int .i64 (1 : Int)] (V.drewN m) (EndsL w0 P A c L (V.drewN m) k (run f (.list 1 []) (L.drop (k + 1)))) := fun m => by
        have := list_any hE F hF 1 (by omega) (by omega) f hf _ (hSV.drew m) e2 rfl (by rw [hrun2]; exact hne)
        exact this
      rw [hrun2] at hL
      have HL := Lib.hid hL
      have HE := Lib.hid hE
      clear hI hV hbV hzV hF hS hSV hL e1 e2 hE
      go_enter Tryz.func55, Tryz.ntmps55
      go_wp2_with fail
      rw [HV.out]
      refine HI.out.mono ?_; rintro e w1 ⟨rfl, m, rfl⟩
      have HVm := Lib.hid (grown_below (HBV.out.trans ((b_drewN (Below.refl V.heap.size V) m).mono HBV.out.size)) (some P))
      have HZm := Lib.hid (boxz_keep HZ.out (b_drewN (Below.refl V.heap.size V) m))
      go_wp2_with fail
      refine (HL.out m).mono ?_; intro e w2 he
      cases o with
      | tired => exact he.elim
      | bad r' =>
        obtain ⟨v, rfl, hw, hg⟩ := he
        have HW := Lib.hid (And.intro hw hg)
        clear hw hg
        go_wp2_with fail
        exact ⟨rfl, v, rfl, HW.out.1, grown_trans HVm.out HW.out.2⟩
      | ok l r' =>
        obtain ⟨x, rfl⟩ : ∃ x, l = [x] := by
          obtain ⟨y, hy⟩ := run_form_one.run_list_one f 1 [] _ _ _ (by simp) hrun2
          exact ⟨y, hy⟩
        obtain ⟨g, cp, k', rfl, hrow, rfl, hk', hS2, hg2, _⟩ := he
        obtain ⟨a, d, B, n, c2, hA2, hPa, hat, hix⟩ := hrow 0 (by simp)
        obtain rfl : (⟨g, 0, none⟩ : Addr) = a := by injection hA2
        rw [show ((⟨g, 0, none⟩ : Addr).add (0 * 6)) = ⟨g, 0, none⟩ from by simp [Addr.add]] at hat
        obtain ⟨q0, q1, q2, q3, q4, q5⟩ := hat
        obtain ⟨hbz, hend⟩ := fin_box (cp := c2) HS.out HE.out HVm.out HZm.out hix hS2 hg2
        obtain ⟨z1, z2⟩ := cells_of hbz
        unfold S6 at hend
        have HEnd := Lib.hid hend
        clear hend hbz hix hS2 hg2 hrow
        go_wp2_with fail
        refine bodyPost_ret (v := .agg #[.int .i64 d.op, .int .i64 d.k, .int .i64 d.n, .string d.s, .string d.nm, .slice B n c2]) (by simp [results, Tryz.results55, go_sem, z1]) rfl ?_
        obtain ⟨e1, e2, e3⟩ := HEnd.out
        exact ⟨d, B, n, c2, k', rfl, e1, rfl, hk', e2, e3⟩
    · rw [if_neg hp] at hrun2
      have e1 : isNext (ByteArray.mk #[40]).data.toList (t :: r) = false := decide_eq_false hp
      rw [e1] at hI
      cases h6 : PsM.opAt 6 t.s with
      | some op =>
        simp only [h6] at hrun2
        have h6' : opNext 6 (L.drop k) = some op := by rw [hd]; exact h6
        obtain ⟨p1, p2, p3, p4, p5⟩ := opAt6 h6 hts
        have HI := Lib.hid hI
        have HV := Lib.hid hV
        have HBV := Lib.hid hbV
        have HZ := Lib.hid hzV
        have HS := Lib.hid hS
        have HSV := Lib.hid hSV
        have HO := Lib.hid (fun m => operator_yes hE (hSV.drew m) hFu 6 op h6')
        have HE := Lib.hid hE
        have HF := Lib.hid hF
        have HRun := Lib.hid hrun2
        have HNe := Lib.hid hne
        have HR := Lib.hid hr
        clear hI hV hbV hzV hF hS hSV hE hrun2 hne h6 h6' e1 h5 hd hr ht
        go_enter Tryz.func55, Tryz.ntmps55
        go_wp2_with fail
        rw [HV.out]
        refine HI.out.mono ?_; rintro e w1 ⟨rfl, m, rfl⟩
        have HVm := Lib.hid (grown_below (HBV.out.trans ((b_drewN (Below.refl V.heap.size V) m).mono HBV.out.size)) (some P))
        have HZm := Lib.hid (boxz_keep HZ.out (b_drewN (Below.refl V.heap.size V) m))
        go_wp2_with fail
        refine (HO.out m).mono ?_; rintro e w2 ⟨rfl, hk2, hS2, hg2⟩
        have hz2 := boxz_grown HZm.out hg2 (by omega)
        have hgw2 := grown_trans HVm.out hg2
        obtain ⟨_, _, y2⟩ := tab_cells (ExN.Tab.below HE.out.tab hS2.below) op p1
        rw [p3] at y2
        have hsz2 := hgw2.size
        have t3 : ((op : Int) == 0) = false := beq_eq_false_iff_ne.2 (by omega)
        have t4 : (op : Int) < 19 := by omega
        cases hn : isNext [40] r with
        | false =>
          have hrun := HRun.out
          rw [hn] at hrun
          simp only [Bool.false_eq_true, if_false] at hrun
          subst hrun
          rw [HR.out] at hn
          have HL := Lib.hid (list_no HE.out (arity op) hS2 hn)
          have HG := Lib.hid hgw2
          clear hS2 hg2 hz2 hgw2 hn
          go_wp2_with fail
          refine HL.out.mono ?_; rintro e w3 ⟨v, rfl, hw, hg⟩
          have HW := Lib.hid (And.intro hw hg)
          clear hw hg
          go_wp2_with fail
          exact ⟨rfl, v, rfl, by rw [HR.out]; exact HW.out.1, grown_trans HG.out HW.out.2⟩
        | true =>
          have hrun := HRun.out
          rw [hn] at hrun
          simp only [if_true] at hrun
          rw [HR.out] at hrun hn
          rw [List.tail_drop] at hrun
          obtain ⟨o2, ho2⟩ : ∃ o2, run f (.list (arity op) []) (L.drop (k + 1 + 1)) = o2 := ⟨_, rfl⟩
          rw [ho2] at hrun
          have hne2 : o2 ≠ .tired := fun e => HNe.out (by rw [← hrun, e]; rfl)
          have HL := Lib.hid (list_any HE.out F HF.out (arity op) p5 p4 f hf _ hS2 hn ho2 hne2)
          have HG := Lib.hid hgw2
          have HZ2 := Lib.hid hz2
          have HG2 := Lib.hid hg2
          have HO2 := Lib.hid ho2
          clear hS2 hg2 hz2 hgw2 hn ho2 hne2
          go_wp2_with fail
          refine HL.out.mono ?_; intro e w3 he
          cases o2 with
          | tired => exact he.elim
          | bad r' =>
            obtain ⟨v, rfl, hw, hg⟩ := he
            subst hrun
            have HW := Lib.hid (And.intro hw hg)
            clear hw hg
            go_wp2_with fail
            exact ⟨rfl, v, rfl, HW.out.1, grown_trans HG.out HW.out.2⟩
          | ok l r' =>
            obtain ⟨g, cp, k', rfl, hrow, rfl, hk', hS3, hg3, hlen⟩ := he
            subst hrun
            have hx : IsP (fun b => w2.heap.size ≤ b) w3 (opN op l) ⟨(op : Int), 0, 0, ⟨#[]⟩, ⟨#[]⟩⟩ (some ⟨g, 0, none⟩) l.length := RowP.mk_ hrow rfl (by unfold maxLen; omega) (Nat.zero_le _) (Nat.zero_le _)
            obtain ⟨hbz, hend⟩ := fin_box (cp := cp) HS.out HE.out HG.out HZ2.out hx hS3 hg3
            obtain ⟨z1, z2⟩ := cells_of hbz
            unfold S6 at hend
            have HEnd := Lib.hid hend
            clear hend hbz hx hS3 hg3 hrow y2
            go_wp2_with fail
            refine bodyPost_ret (v := .agg #[.int .i64 (op : Int), .int .i64 0, .int .i64 0, .string ⟨#[]⟩, .string ⟨#[]⟩, .slice (some ⟨g, 0, none⟩) l.length cp]) (by simp [results, Tryz.results55, go_sem, z1]) rfl ?_
            obtain ⟨e1, e2, e3⟩ := HEnd.out
            exact ⟨_, _, _, cp, k', rfl, e1, rfl, by omega, e2, e3⟩
      | none =>
        simp only [h6] at hrun2
        have h6' : opNext 6 (L.drop k) = none := by rw [hd]; exact h6
        have hx : ∃ b x, ((b = true ∧ leafN L[k] = some x) ∨ (b = false ∧ leafN L[k] = none ∧ x = .mk ⟨0, 0, 0, ⟨#[]⟩, ⟨#[]⟩⟩ [])) ∧ o = if b then .ok [x] (L.drop (k + 1)) else .bad (L.drop k) := by
          rw [← ht]
          cases hlf : leafN t with
          | some x => rw [hlf] at hrun2; exact ⟨true, x, .inl ⟨rfl, rfl⟩, by rw [← hrun2, hr]; rfl⟩
          | none => rw [hlf] at hrun2; exact ⟨false, _, .inr ⟨rfl, rfl, rfl⟩, by rw [← hrun2, hd]; rfl⟩
        obtain ⟨b, x, hbx, ho⟩ := hx
        have HI := Lib.hid hI
        have HV := Lib.hid hV
        have HBV := Lib.hid hbV
        have HZ := Lib.hid hzV
        have HS := Lib.hid hS
        have HSV := Lib.hid hSV
        have HO := Lib.hid (fun m => operator_no hE (hSV.drew m) hFu 6 (by omega) h6')
        have HE := Lib.hid hE
        have HBx := Lib.hid hbx
        have HOo := Lib.hid ho
        clear hI hV hbV hzV hF hS hSV hE hrun2 hne h6 h6' e1 h5 hd hr hbx ho
        go_enter Tryz.func55, Tryz.ntmps55
        go_wp2_with fail
        rw [HV.out]
        refine HI.out.mono ?_; rintro e w1 ⟨rfl, m, rfl⟩
        go_wp2_with fail
        refine (HO.out m).mono ?_; rintro e w2 ⟨rfl, hb2⟩
        have hbm := (b_drewN (Below.refl V.heap.size V) m)
        have hbV2 : Below V.heap.size V w2 := hbm.trans (hb2.mono (by exact Nat.le_refl _))
        have hS2 := HSV.out.keep hbV2
        have hg2 : w.grownBy w2 (some P) := grown_below (HBV.out.trans (hbV2.mono HBV.out.size)) _
        have hz2 := boxz_keep HZ.out hbV2
        have HX := Lib.hid (single_any HE.out hS2 hk b x HBx.out hSm)
        have HG := Lib.hid hg2
        have HZ2 := Lib.hid hz2
        clear hbm hb2 hbV2 hS2 hg2 hz2
        go_wp2_with fail
        refine HX.out.mono ?_; rintro e w3 ⟨hT, hFa⟩
        cases b with
        | false =>
          obtain ⟨v, rfl, hw, hg⟩ := hFa rfl
          obtain rfl := HOo.out
          have HW := Lib.hid (And.intro hw hg)
          clear hw hg hT hFa
          go_wp2_with fail
          exact ⟨rfl, v, rfl, HW.out.1, grown_trans HG.out HW.out.2⟩
        | true =>
          obtain ⟨d, B, n, c2, k', rfl, hix, hr', hk', hS3, hg3⟩ := hT rfl
          obtain rfl := HOo.out
          obtain ⟨hbz, hend⟩ := fin_box (cp := c2) HS.out HE.out HG.out HZ2.out hix hS3 hg3
          obtain ⟨z1, z2⟩ := cells_of hbz
          unfold S6 at hend
          have HEnd := Lib.hid hend
          have HR' := Lib.hid hr'
          clear hend hbz hix hS3 hg3 hT hFa hr'
          go_wp2_with fail
          refine bodyPost_ret (v := .agg #[.int .i64 d.op, .int .i64 d.k, .int .i64 d.n, .string d.s, .string d.nm, .slice B n c2]) (by simp [results, Tryz.results55, go_sem, z1]) rfl ?_
          obtain ⟨e1, e2, e3⟩ := HEnd.out
          exact ⟨d, B, n, c2, k', rfl, e1, HR'.out, hk', e2, e3⟩
end
end Go.Proofs.YtjjchbafobcofaaGreatDoor.PsA
