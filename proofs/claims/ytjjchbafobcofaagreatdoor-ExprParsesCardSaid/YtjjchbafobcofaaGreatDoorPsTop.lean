/- The parser's method formula. -/
import Derived.Test.YtjjchbafobcofaaGreatDoorPsForm
namespace Go.Proofs.YtjjchbafobcofaaGreatDoor.PsT2
open Go.RowKit
open LexM ExM Kit ExL ExP PsM PsT NmC Ps PsR PsL PsA PsF
set_option linter.unusedVariables false
section
variable {w0 : World} {P : Nat} {A : Option Addr} {c : Nat} {L : List Tk}
/-- How far it is to the end of the tokens. -/
def left (P n : Nat) (w : World) : Nat := match w.cell? ⟨P, 1, none⟩ with | some (.int _ k) => n - k.toNat | _ => 0
theorem left_st {w : World} {k : Nat} (h : St w0 P A c L w k) : left P L.length w = L.length - k := by
  unfold left; rw [h.at.2]; simp

def after (F q : Nat) (o : Out) : Out := match o with | .ok (x :: _) r => run F (.loop q x) r | o => o
theorem run_form (F q : Nat) (h : q ≠ 5) (ts : List Tk) : run (F + 1) (.form q) ts = after F q (run F (.form (q + 1)) ts) := by
  simp only [run, if_neg h, after]
  cases run F (.form (q + 1)) ts with
  | ok l r => cases l <;> rfl
  | bad r => rfl
  | tired => rfl
def once (F q op : Nat) (x : Ex) (o : Out) : Out := match o with | .ok (y :: _) r' => if q = 2 then .ok [opN op [x, y]] r' else run F (.loop q (opN op [x, y])) r' | o => o
theorem run_loop (F q op : Nat) (x : Ex) (t : Tk) (r : List Tk) (h : PsM.opAt q t.s = some op) : run (F + 1) (.loop q x) (t :: r) = once F q op x (run F (.form (q + 1)) r) := by
  simp only [run, h, once]
  cases run F (.form (q + 1)) r with
  | ok l r => cases l <;> rfl
  | bad r => rfl
  | tired => rfl

set_option maxRecDepth 100000 in
set_option maxHeartbeats 16000000 in
theorem form_step (hE : Env w0 P A L) (hFu : Full L) (hSm : Small L) (F : Nat) (hF : ∀ f, f ≤ F → FormC w0 P A c L f) : FormC w0 P A c L (F + 1) := by
  intro q w k o hq hrun hne hS
  have hl := hS.lt
  obtain ⟨V, hV⟩ : ∃ V, w.alloc (.cells #[.int .i64 0, .int .i64 0, .int .i64 0, .string ⟨#[]⟩, .string ⟨#[]⟩, .slice none 0 0] 26) = V := ⟨_, rfl⟩
  have hSV := box_new hS
  have hzV := boxz_at w
  have hbV := b_new w (.cells #[.int .i64 0, .int .i64 0, .int .i64 0, .string ⟨#[]⟩, .string ⟨#[]⟩, .slice none 0 0] 26)
  rw [hV] at hSV hzV hbV
  by_cases h5 : q = 5
  · subst h5
    have HA := Lib.hid (pref_any hE hFu hSm F hF (F + 1) (by omega) V k o hrun hne hSV)
    have HV := Lib.hid hV
    have HG := Lib.hid (grown_below hbV (some P))
    have HZ := Lib.hid hzV
    have HS := Lib.hid hS
    have HE := Lib.hid hE
    clear hF hrun hne hS hV hSV hzV hbV hE
    go_enter Tryz.func16, Tryz.ntmps16
    go_wp2_with fail
    rw [HV.out]
    refine HA.out.mono ?_; intro e w3 he
    cases o with
    | tired => exact he.elim
    | bad r' =>
      obtain ⟨v, rfl, hw, hg⟩ := he
      have HW := Lib.hid (And.intro hw hg)
      clear hw hg
      go_wp2_with fail
      exact ⟨rfl, v, rfl, HW.out.1, grown_trans HG.out HW.out.2⟩
    | ok l r' =>
      match l, he with
      | [], he => exact he.elim
      | x :: y :: l, he => exact he.elim
      | [x], he =>
        obtain ⟨d, B, n, c2, k', rfl, hix, rfl, hk', hS3, hg3⟩ := he
        obtain ⟨hbz, hend⟩ := fin_box (cp := c2) HS.out HE.out HG.out HZ.out hix hS3 hg3
        obtain ⟨z1, z2⟩ := cells_of hbz
        unfold S6 at hend
        have HEnd := Lib.hid hend
        clear hend hbz hix hS3 hg3
        go_wp2_with fail
        refine bodyPost_ret (v := .agg #[.int .i64 d.op, .int .i64 d.k, .int .i64 d.n, .string d.s, .string d.nm, .slice B n c2]) (by simp [results, Tryz.results16, go_sem, z1]) rfl ?_
        obtain ⟨e1, e2, e3⟩ := HEnd.out
        exact ⟨d, B, n, c2, k', rfl, e1, rfl, hk', e2, e3⟩
  · have t5 : ((q : Int) == 5) = false := beq_eq_false_iff_ne.2 (by omega)
    have hw1 : IntKind.i64.wrap ((q : Int) + 1) = (q : Int) + 1 := IntWalk.i64_in _ (by omega)
    obtain ⟨o1, ho1⟩ : ∃ o1, run F (.form (q + 1)) (L.drop k) = o1 := ⟨_, rfl⟩
    have hrun1 : after F q o1 = o := by rw [run_form F q h5, ho1] at hrun; exact hrun
    have hne1 : o1 ≠ .tired := fun e => hne (by rw [← hrun1, e]; rfl)
    have hc1 := hF F (Nat.le_refl _) (q + 1) V k o1 (by omega) ho1 hne1 hSV
    rw [show (((q + 1 : Nat)) : Int) = (q : Int) + 1 from rfl] at hc1
    have HC1 := Lib.hid hc1
    have HF := Lib.hid hF
    have HV := Lib.hid hV
    have HG := Lib.hid (grown_below hbV (some P))
    have HZ := Lib.hid hzV
    have HS := Lib.hid hS
    have HE := Lib.hid hE
    have HRun := Lib.hid hrun1
    have HNe := Lib.hid hne
    have HO1 := Lib.hid ho1
    clear hF hrun hne hS hV hSV hzV hbV hE hc1 hrun1 ho1 hne1
    go_enter Tryz.func16, Tryz.ntmps16
    go_wp2_with fail
    rw [HV.out]
    refine HC1.out.mono ?_; intro e w3 he
    cases o1 with
    | tired => exact he.elim
    | bad r' =>
      obtain ⟨v, rfl, hw, hg⟩ := he
      obtain rfl := HRun.out
      have HW := Lib.hid (And.intro hw hg)
      clear hw hg
      go_wp2_with fail
      exact ⟨rfl, v, rfl, HW.out.1, grown_trans HG.out HW.out.2⟩
    | ok l r' =>
      match l, he with
      | [], he => exact he.elim
      | x :: y :: l, he => exact he.elim
      | [x], he =>
        obtain ⟨d, B, n, c2, k1, rfl, hix, rfl, hk1, hS3, hg3⟩ := he
        have hrun2 : run F (.loop q x) (L.drop k1) = o := HRun.out
        have hb4 := b_new w3 (.cells #[.int .i64 d.op, .int .i64 d.k, .int .i64 d.n, .string d.s, .string d.nm, .slice B n c2] 26)
        have hz3 := boxz_grown HZ.out hg3 (by omega)
        have hsV : w.heap.size < V.heap.size := (Array.getElem?_eq_some_iff.1 HZ.out).1
        have hs3 := hg3.size
        have hI0 : FI w0 P A c L w k w3.heap.size x d B n c2 (w3.alloc (.cells #[.int .i64 d.op, .int .i64 d.k, .int .i64 d.n, .string d.s, .string d.nm, .slice B n c2] 26)) k1 :=
          ⟨World.alloc_heap_new w3 _, (IsP.keep (fun b _ hb => (hb4.block b hb)) (fun b hb hlt => ⟨by have h1 : V.heap.size ≤ b := hb; omega, by omega⟩) _ _ _ _ hix), hS3.keep hb4, boxz_keep hz3 hb4, grown_trans HG.out (grown_trans hg3 (grown_below hb4 _)), hk1, by omega⟩
        have HI0 := Lib.hid hI0
        have HRun2 := Lib.hid hrun2
        clear hI0 hb4 hz3 hix hS3 hg3 hrun2 HC1 HZ
        go_wp2_with fail
        go_loopw [6] (fun _ wr => ∃ (x : Ex) (d : Nd) (B : Option Addr) (m cp k' f2 : Nat), FI w0 P A c L w k w3.heap.size x d B m cp wr k' ∧ f2 ≤ F ∧ run f2 (.loop q x) (L.drop k') = o) (fun _ wr => left P L.length wr)
        case atStart => exact ⟨x, d, B, n, c2, k1, F, HI0.out, Nat.le_refl _, HRun2.out⟩
        case round =>
          clear HI0 HRun2 HO1 HRun hk1
          obtain ⟨x, d, B, m, cp, k', f2, hI, hf2, hrunL⟩ := hrel
          obtain ⟨f3, rfl⟩ : ∃ g, f2 = g + 1 := by
            cases f2 with
            | zero => exact absurd hrunL.symm HNe.out
            | succ f => exact ⟨f, rfl⟩
          have hleft := left_st hI.st
          cases hop : opNext q (L.drop k') with
          | none =>
            have ho : o = .ok [x] (L.drop k') := by
              rw [← hrunL]
              cases hd : L.drop k' with
              | nil => simp [run]
              | cons t r =>
                rw [hd] at hop
                have hop' : PsM.opAt q t.s = none := hop
                simp only [run, hop']
            subst ho
            have HO := Lib.hid (operator_no HE.out hI.st hFu q (by omega) hop)
            have HI := Lib.hid hI
            clear hI hop hrunL
            go_wp2_with fail
            refine HO.out.mono ?_; rintro e w4 ⟨rfl, hb4⟩
            have hI4 := HI.out.keep hl (HI.out.st.keep hb4) (grown_below hb4 _) (Nat.le_refl _)
            have hend := hI4.done HS.out HE.out.hP
            obtain ⟨y1, y2⟩ := cells_of hI4.box
            obtain ⟨z1, z2⟩ := cells_of hI4.res
            unfold S6 at hend
            have HEnd := Lib.hid (And.intro hI4.le hend)
            clear hend hI4 hb4 HI HO
            go_wp2_with fail
            refine bodyPost_ret (v := .agg #[.int .i64 d.op, .int .i64 d.k, .int .i64 d.n, .string d.s, .string d.nm, .slice B m cp]) (by simp [results, Tryz.results16, go_sem, z1]) rfl ?_
            obtain ⟨e0, e1, e2, e3⟩ := HEnd.out
            exact ⟨d, B, m, cp, k', rfl, e1, rfl, e0, e2, e3⟩
          | some op =>
            obtain ⟨t, r, hd⟩ : ∃ t r, L.drop k' = t :: r := by
              cases hd : L.drop k' with
              | nil => rw [hd] at hop; cases hop
              | cons t r => exact ⟨t, r, rfl⟩
            obtain ⟨hk', ht, hr⟩ := drop_cons hd
            have hop' : PsM.opAt q t.s = some op := by rw [hd] at hop; exact hop
            have hob := opAt_bounds hop' (hFu t (by rw [ht]; exact List.getElem_mem _))
            rw [hd, run_loop f3 q op x t r hop', hr] at hrunL
            obtain ⟨o3, ho3⟩ : ∃ o3, run f3 (.form (q + 1)) (L.drop (k' + 1)) = o3 := ⟨_, rfl⟩
            rw [ho3] at hrunL
            have hne3 : o3 ≠ .tired := fun e => HNe.out (by rw [← hrunL, e]; rfl)
            have hone : ∀ l r, o3 = .ok l r → ∃ y, l = [y] := fun l r e => run_form_one f3 (.form (q + 1)) _ l r (fun n acc => by simp) (ho3.trans e)
            have HOne := Lib.hid hone
            clear hone
            have t6 : ((op : Int) == 0) = false := beq_eq_false_iff_ne.2 (by omega)
            have HO := Lib.hid (operator_yes HE.out hI.st hFu q op hop)
            have HI := Lib.hid hI
            have HR3 := Lib.hid hrunL
            have HC3 := Lib.hid (fun (W : World) (hW : St w0 P A c L W (k' + 1)) => HF.out f3 (by omega) (q + 1) W (k' + 1) o3 (by omega) ho3 hne3 hW)
            clear hI hop hop' hrunL hd ht hr ho3 hne3
            go_wp2_with fail
            refine HO.out.mono ?_; rintro e w4 ⟨rfl, hk4, hS4, hg4⟩
            have hI4 := HI.out.keep hl hS4 hg4 (Nat.le_succ _)
            have HI4 := Lib.hid hI4
            clear HO HI hg4 hS4 hI4
            have hc3 : ∀ W, Below w4.heap.size w4 W → Calls Tryz.prog 16 #[.pointer (some ⟨P, 0, none⟩), .int .i64 ((q : Int) + 1)] W (PsL.Ends w0 P A c L W (k' + 1) o3) := fun W hW => by
              have := HC3.out W (HI4.out.st.keep hW)
              rw [show (((q + 1 : Nat)) : Int) = (q : Int) + 1 from rfl] at this; exact this
            have HC := Lib.hid hc3
            have hbl := Below.refl w4.heap.size w4
            obtain ⟨y1, y2⟩ := cells_of HI4.out.box
            have y3 := (Array.getElem?_eq_some_iff.1 HI4.out.box).1
            clear hc3 HC3
            cases o3 with
            | tired => exact absurd HR3.out.symm HNe.out
            | bad r3 =>
              obtain rfl := HR3.out
              go_wp2_with fail
              have hfin : ∀ W w5 v, Below w4.heap.size w4 W → Wrong v r3 ∧ W.grownBy w5 (some P) → PsL.Ends w0 P A c L w k (.bad r3) (.panicked [{ v := v, recovered := false }]) w5 := fun W w5 v hW h => ⟨v, rfl, h.1, grown_trans HI4.out.grown (grown_trans (grown_below hW _) h.2)⟩
              have HFin := Lib.hid hfin
              clear hfin
              go_region_dies
              all_goals
                refine (HC.out _ (by first | exact b_drew hbl | exact hbl)).mono ?_
                rintro e w5 ⟨v, rfl, hw, hg5⟩
                have HW := Lib.hid (HFin.out _ w5 v (b_drew hbl) ⟨hw, hg5⟩)
                clear hw hg5
                go_wp2_with fail
                exact ⟨rfl, HW.out⟩
            | ok l3 r3 =>
              obtain ⟨y, rfl⟩ := HOne.out l3 r3 rfl
              go_upto_region 7 with fail
              go_cut [6] (fun _ wx => ∃ (dy : Nd) (By : Option Addr) (my cy k2 g : Nat), r3 = L.drop k2 ∧ k' + 1 ≤ k2 ∧ FI w0 P A c L w k w3.heap.size (opN op [x, y]) ⟨(op : Int), 0, 0, ⟨#[]⟩, ⟨#[]⟩⟩ (some ⟨g, 0, none⟩) 2 2 wx k2)
              case first =>
                go_region_with (go_at_call 16; (with_reducible refine (HC.out _ ?_).mono ?_); (first | exact hbl | exact b_drew hbl); rintro e w5 ⟨dy, By, my, cy, k2, rfl, hy5, hr5, hk5, hS5, hg5⟩; have hg6 : w4.grownBy w5 (some P) := (by first | exact hg5 | exact grown_trans (grown_below (b_drew (Below.refl _ _)) _) hg5); have hI5 := HI4.out.keep hl hS5 hg6 hk5; have hN := HI4.out.step (op := op) (cy := cy) hl HE.out.hP hy5 hS5 hg6 hk5; obtain ⟨x1, x2⟩ := cells_of hI5.box; have x3 := (Array.getElem?_eq_some_iff.1 hI5.box).1; rw [s6_alloc _ _ _ x3] at hN; unfold S6 at hN; have HN := Lib.hid (And.intro hr5 (And.intro hk5 hN)); clear hN hI5 hg6 hy5 hr5 hk5 hS5 hg5)
                all_goals (go_wp2_with fail; go_meet)
                all_goals (with_reducible exact ⟨dy, By, my, cy, k2, w5.heap.size, HN.out.1, HN.out.2.1, HN.out.2.2⟩)
              case rest =>
                obtain ⟨dy, By, my, cy, k2, g, rfl, hk6, hI6⟩ := hcut
                have hres : once f3 q op x (.ok [y] (L.drop k2)) = o := HR3.out
                have hleft6 := left_st hI6.st
                have hle6 := hI6.st.le
                by_cases hq2 : q = 2
                · subst hq2
                  have t7 : (((2 : Nat) : Int) == 2) = true := rfl
                  simp only [once, if_true] at hres
                  subst hres
                  have hend := hI6.done HS.out HE.out.hP
                  obtain ⟨x1, x2⟩ := cells_of hI6.box
                  obtain ⟨z1, z2⟩ := cells_of hI6.res
                  have hn1 : w3.heap.size ≠ w.heap.size := by have := hI6.lt; omega
                  unfold S6 at hend
                  have HEnd := Lib.hid (And.intro hI6.le hend)
                  clear hend hI6 y1 y2 y3 HR3 HOne HC
                  go_wp2_with fail
                  refine bodyPost_ret (v := .agg #[.int .i64 (op : Int), .int .i64 0, .int .i64 0, .string ⟨#[]⟩, .string ⟨#[]⟩, .slice (some ⟨g, 0, none⟩) 2 2]) (by simp [results, Tryz.results16, go_sem, z1]) rfl ?_
                  obtain ⟨e0, e1, e2, e3⟩ := HEnd.out
                  exact ⟨_, _, 2, 2, k2, rfl, e1, rfl, e0, e2, e3⟩
                · have t7 : ((q : Int) == 2) = false := beq_eq_false_iff_ne.2 (by omega)
                  simp only [once, if_neg hq2] at hres
                  have HI6 := Lib.hid hI6
                  have HRes := Lib.hid hres
                  clear hI6 hres y1 y2 y3 HR3 HOne HC
                  go_wp2_with fail
                  go_roundw
                  case rel => exact ⟨_, _, _, 2, 2, k2, f3, HI6.out, by omega, HRes.out⟩
                  case measure => rw [hleft6, hleft]; omega

theorem form_all (hE : Env w0 P A L) (hFu : Full L) (hSm : Small L) : ∀ f, FormC w0 P A c L f := by
  intro f
  induction f using Nat.strongRecOn with
  | ind f ih =>
    cases f with
    | zero => intro q w k o _ hrun hne; exact absurd hrun.symm hne
    | succ F => exact form_step hE hFu hSm F fun g hg => ih g (by omega)
end
end Go.Proofs.YtjjchbafobcofaaGreatDoor.PsT2
