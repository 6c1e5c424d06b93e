/- The parser's method list. -/
import Derived.Test.YtjjchbafobcofaaGreatDoorPsRun
import Derived.Maps.AppendAt
import Derived.Deep.AppendLies
namespace Go.Proofs.YtjjchbafobcofaaGreatDoor.PsL
open Go.RowKit
open LexM ExM Kit ExL ExP PsM PsT NmC Ps PsR
set_option linter.unusedVariables false

theorem own_slice {w : World} {base : Nat} {e : TypeId} {size : Nat} {v : Value} {n : Nat} {xs : List Value} (h : w.ownsRow base e size v n xs) : ∃ A c, v = .slice A n c := by
  rcases h.2 with ⟨h1, h2⟩ | ⟨g, cap, cur, h1, _⟩
  · exact ⟨none, 0, by rw [h2]; exact h1⟩
  · exact ⟨some ⟨g, 0, none⟩, cap, h1⟩
theorem own_form {w : World} {base : Nat} {e : TypeId} {size : Nat} {v : Value} {n : Nat} {xs : List Value} (h : w.ownsRow base e size v n xs) (hn : 0 < n) :
    ∃ g cap, v = .slice (some ⟨g, 0, none⟩) n cap ∧ base ≤ g ∧ g < w.heap.size ∧ n ≤ cap ∧ cap ≤ maxLen ∧ ∀ j, j < n * size → w.cell? ⟨g, j, none⟩ = xs[j]? := by
  rcases h.2 with ⟨_, h2⟩ | ⟨g, cap, cur, h1, h2, h3, h4, h5, _⟩
  · omega
  · subst h1
    have hl := h.lt g rfl
    exact ⟨g, cap, rfl, h2, hl.2, h4, h5, fun j hj => h.cellAt j hj⟩

/-! ### What there is of a reading -/
theorem run_form_one : ∀ (f : Nat) (j : Job) (ts : List Tk) (l : List Ex) (r : List Tk), (∀ n acc, j ≠ .list n acc) → run f j ts = .ok l r → ∃ x, l = [x]
  | 0, j, ts, l, r, _, h => by simp [run] at h
  | f + 1, .form q, ts, l, r, _, h => by
    have hw : ∀ (op : Nat) (o : Out) (l : List Ex) (r : List Tk), wrap op o = .ok l r → ∃ x, l = [x] := fun op o l r h => by
      cases o with
      | ok l' r' => simp only [wrap, Out.ok.injEq] at h; exact ⟨_, h.1.symm⟩
      | bad r' => simp [wrap] at h
      | tired => simp [wrap] at h
    unfold run at h
    split at h
    · cases ts with
      | nil => simp at h
      | cons t r' =>
        simp only at h
        split at h
        · exact hw _ _ _ _ h
        · split at h
          · rename_i h5 h40
            exact run_list_one f 1 [] r' l r (by simp) h
          · split at h
            · split at h
              · exact hw _ _ _ _ h
              · simp at h
            · split at h
              · simp only [Out.ok.injEq] at h; exact ⟨_, h.1.symm⟩
              · simp at h
    · split at h
      · exact run_form_one f _ _ _ _ (fun n acc => by simp) h
      · rename_i hne
        cases ho : run f (.form (q + 1)) ts with
        | ok l' r' =>
          obtain ⟨x, rfl⟩ := run_form_one f _ _ _ _ (fun n acc => by simp) ho
          exact absurd ho (hne x [] r')
        | bad r' => rw [ho] at h; simp at h
        | tired => rw [ho] at h; simp at h
  | f + 1, .loop q x, ts, l, r, _, h => by
    unfold run at h
    cases ts with
    | nil => simp only [Out.ok.injEq] at h; exact ⟨_, h.1.symm⟩
    | cons t r0 =>
      cases hop : PsM.opAt q t.s with
      | none => simp only [hop, Out.ok.injEq] at h; exact ⟨_, h.1.symm⟩
      | some op =>
        simp only [hop] at h
        cases ho : run f (.form (q + 1)) r0 with
        | ok l' r' =>
          obtain ⟨y, rfl⟩ := run_form_one f _ _ _ _ (fun n acc => by simp) ho
          simp only [ho] at h
          split at h
          · simp only [Out.ok.injEq] at h; exact ⟨_, h.1.symm⟩
          · exact run_form_one f _ _ _ _ (fun n acc => by simp) h
        | bad r' => rw [ho] at h; simp at h
        | tired => rw [ho] at h; simp at h
  | f + 1, .list n acc, ts, l, r, hn, h => absurd rfl (hn n acc)
where run_list_one : ∀ (f n : Nat) (acc : List Ex) (ts : List Tk) (l : List Ex) (r : List Tk), acc.length + 1 = n → run f (.list n acc) ts = .ok l r → ∃ y, l = acc ++ [y]
  | 0, n, acc, ts, l, r, _, h => by simp [run] at h
  | f + 1, n, acc, ts, l, r, hn, h => by
    unfold run at h
    split at h
    · rw [if_neg (by omega)] at h
      split at h
      · simp only [Out.ok.injEq] at h; exact ⟨_, h.1.symm⟩
      · simp at h
    · rename_i hne
      cases ho : run f (.form 0) ts with
      | ok l' r' =>
        obtain ⟨x, rfl⟩ := run_form_one f _ _ _ _ (fun n acc => by simp) ho
        exact absurd ho (hne x [] r')
      | bad r' => rw [ho] at h; simp at h
      | tired => rw [ho] at h; simp at h

section
variable {w0 : World} {P : Nat} {A : Option Addr} {c : Nat} {L : List Tk} {w : World} {k : Nat}
/-- How a method that reads one formula ends. -/
def Ends (w0 : World) (P : Nat) (A : Option Addr) (c : Nat) (L : List Tk) (w : World) (k : Nat) (o : Out) (e : Ending) (w' : World) : Prop :=
  match o with
  | .ok [x] r => OkX w0 P A c L w k x r e w'
  | .bad r => BadX P w r e w'
  | _ => False
/-- The contract of formula, at a fuel. -/
def FormC (w0 : World) (P : Nat) (A : Option Addr) (c : Nat) (L : List Tk) (f : Nat) : Prop := ∀ (q : Nat) (w : World) (k : Nat) (o : Out), q ≤ 5 → run f (.form q) (L.drop k) = o → o ≠ .tired → St w0 P A c L w k →
  Calls Tryz.prog 16 #[.pointer (some ⟨P, 0, none⟩), .int .i64 (q : Int)] w (Ends w0 P A c L w k o)
/-- What is behind a formula of a list. -/
def cont (f n : Nat) (l : List Ex) (r : List Tk) : Out :=
  if l.length < n then (if isNext [44] r then run f (.list n l) r.tail else .bad r) else (if isNext [41] r then .ok l r.tail else .bad r)
theorem run_list (f n : Nat) (acc : List Ex) (ts : List Tk) : run (f + 1) (.list n acc) ts = match run f (.form 0) ts with | .ok [x] r => cont f n (acc ++ [x]) r | o => o := by
  cases ho : run f (.form 0) ts with
  | ok l r =>
    obtain ⟨x, rfl⟩ := run_form_one f _ _ _ _ (fun n acc => by simp) ho
    unfold cont
    simp only [run, ho, List.length_append, List.length_cons, List.length_nil, Nat.zero_add]
  | bad r => simp only [run, ho]
  | tired => simp only [run, ho]
structure LsI (w0 : World) (P : Nat) (A : Option Addr) (c : Nat) (L : List Tk) (w : World) (k : Nat) (es : List El) (v : Value) (wr : World) (k' : Nat) : Prop where
  own : wr.ownsRow w.heap.size 26 6 v es.length (elC es)
  is : ∀ e ∈ es, IsP (fun b => w.heap.size ≤ b ∧ some b ≠ v.ownBlock) wr e.x e.d e.A e.n
  st : St w0 P A c L wr k'
  grown : w.grownBy wr (some P)
  le : k ≤ k'
theorem own_ne {v : Value} {n : Nat} {xs : List Value} {wr : World} (hl : P < w.heap.size) (h : wr.ownsRow w.heap.size 26 6 v n xs) : v.ownBlock ≠ some P := fun e => by
  have := (h.lt P e).1; omega
theorem LsI.keep {es : List El} {v : Value} {wr w1 : World} {k' k2 : Nat} (h : LsI w0 P A c L w k es v wr k') (hl : P < w.heap.size) (hS : St w0 P A c L w1 k2) (hg : wr.grownBy w1 (some P)) (hk : k' ≤ k2) : LsI w0 P A c L w k es v w1 k2 :=
  ⟨h.own.kept hg (.inr (own_ne hl h.own)), fun e he => IsP.keep (fun b hb hlt => hg.block b hlt (fun e => by injection e with e; have := hb.1; omega)) (fun _ hb _ => hb) _ _ _ _ (h.is e he), hS, grown_trans h.grown hg, Nat.le_trans h.le hk⟩
theorem LsI.step {es : List El} {v v' : Value} {wr w2 w3 : World} {k1 k2 : Nat} {x : Ex} {d : Nd} {B : Option Addr} {m cp : Nat} {o : Obj} (h : LsI w0 P A c L w k es v wr k1) (hl : P < w.heap.size) (hP : w0.heap.size ≤ P) (hx : IsP (fun b => wr.heap.size ≤ b) w2 x d B m) (hS : St w0 P A c L w2 k2) (hg : wr.grownBy w2 (some P)) (hk : k1 ≤ k2)
    (ho : w3.ownsRow w.heap.size 26 6 v' (es.length + 1) (elC es ++ [.int .i64 d.op, .int .i64 d.k, .int .i64 d.n, .string d.s, .string d.nm, .slice B m cp])) (hg3 : (w2.alloc o).grownBy w3 v.ownBlock) (hloc : v'.ownBlock = v.ownBlock ∨ v'.ownBlock = some (w2.alloc o).heap.size) :
    LsI w0 P A c L w k (es ++ [⟨x, d, B, m, cp⟩]) v' w3 k2 := by
  have hown := own_ne hl h.own
  have hsz := hg.size
  have hws := h.grown.size
  have hb2 : ∀ b, b < w2.heap.size → some b ≠ v.ownBlock → w3.heap[b]? = w2.heap[b]? := fun b hb hne => (hg3.block b (by simp; omega) hne).trans ((b_new w2 o).block b hb)
  have hvl : ∀ g, v.ownBlock = some g → w.heap.size ≤ g ∧ g < wr.heap.size := fun g hg => h.own.lt g hg
  have hPl := hS.lt
  refine ⟨by rw [elC_snoc, List.length_append]; exact ho, fun e he => ?_, ?_, ?_, Nat.le_trans h.le hk⟩
  · rcases List.mem_append.1 he with he | he
    · refine IsP.keep (fun b hb hlt => (hb2 b (by omega) hb.2).trans (hg.block b hlt (fun e => by injection e with e; have := hb.1; omega))) (fun b hb hlt => ⟨hb.1, ?_⟩) _ _ _ _ (h.is e he)
      rcases hloc with e1 | e1
      · rw [e1]; exact hb.2
      · rw [e1]; intro e2; injection e2 with e2; simp at e2; omega
    · simp at he; subst he
      refine IsP.keep (fun b hb hlt => hb2 b hlt (fun e => ?_)) (fun b hb hlt => ⟨?_, ?_⟩) _ _ _ _ hx
      · have h1 : wr.heap.size ≤ b := hb
        have := (hvl b e.symm).2; omega
      · have h1 : wr.heap.size ≤ b := hb
        omega
      · have h1 : wr.heap.size ≤ b := hb
        rcases hloc with e1 | e1
        · rw [e1]; intro e2; have := (hvl b e2.symm).2; omega
        · rw [e1]; intro e2; injection e2 with e2; simp at e2; omega
  · refine ⟨(hb2 P hPl hown.symm).trans hS.prs, ?_, hS.le⟩
    have h1 := (hS.below.trans ((b_new w2 o).mono hS.below.size))
    exact h1.grown hg3 h1.size (fun g hg => by have := (hvl g hg).1; have := h.st.below.size; omega)
  · refine ⟨hg3.os.trans (hg.os.trans h.grown.os), hg3.tape.trans (hg.tape.trans h.grown.tape), hg3.output.trans (hg.output.trans h.grown.output), ?_, fun b hb hne => ?_⟩
    · have := hg3.size; simp at this; omega
    · exact (hb2 b (by omega) (fun e => by have := (hvl b e.symm).1; omega)).trans ((hg.block b (by omega) hne).trans (h.grown.block b hb hne))
def OkL (w0 : World) (P : Nat) (A : Option Addr) (c : Nat) (L : List Tk) (w : World) (k : Nat) (l : List Ex) (r : List Tk) (e : Ending) (w' : World) : Prop :=
  ∃ (g cp k' : Nat), e = .returned (.slice (some ⟨g, 0, none⟩) l.length cp) ∧ RowP (fun b => w.heap.size ≤ b) w' (some ⟨g, 0, none⟩) l ∧ r = L.drop k' ∧ k ≤ k' ∧ St w0 P A c L w' k' ∧ w.grownBy w' (some P) ∧ l.length ≤ 1000
/-- How list ends. -/
def EndsL (w0 : World) (P : Nat) (A : Option Addr) (c : Nat) (L : List Tk) (w : World) (k : Nat) (o : Out) (e : Ending) (w' : World) : Prop :=
  match o with
  | .ok l r => OkL w0 P A c L w k l r e w'
  | .bad r => BadX P w r e w'
  | .tired => False
theorem LsI.done {es : List El} {g cap : Nat} {wr : World} {k' : Nat} (h : LsI w0 P A c L w k es (.slice (some ⟨g, 0, none⟩) es.length cap) wr k') (h0 : 0 < es.length) (hm : es.length ≤ 1000) : RowP (fun b => w.heap.size ≤ b) wr (some ⟨g, 0, none⟩) (es.map El.x) := by
  have hg := (h.own.lt g rfl).1
  have hr := isP_row (P := fun b => w.heap.size ≤ b) (d := ⟨0, 0, 0, ⟨#[]⟩, ⟨#[]⟩⟩) (es := es) (g := g) (w := wr) (fun j hj => h.own.cellAt j hj) hg (by unfold maxLen; omega) (Nat.zero_le _) (Nat.zero_le _) (fun e he => (h.is e he).imp fun b hb _ => hb.1)
  exact (isP_mk.1 hr).2.2.2

def vlen : Value → Nat
  | .slice _ n _ => n
  | _ => 0
theorem ends_ok {o : Out} {x : Ex} {r : List Tk} (h : o = .ok [x] r) {e : Ending} {w' : World} (he : Ends w0 P A c L w k o e w') : OkX w0 P A c L w k x r e w' := by subst h; exact he
theorem ends_bad {o : Out} {r : List Tk} (h : o = .bad r) {e : Ending} {w' : World} (he : Ends w0 P A c L w k o e w') : BadX P w r e w' := by subst h; exact he
theorem infoEx : (Tryz.prog.info? 26).map (fun i => (i.zero, i.size, i.bytes)) = some (some (.agg #[.int .i64 0, .int .i64 0, .int .i64 0, .string ⟨#[]⟩, .string ⟨#[]⟩, .slice none 0 0]), 6, 80) := by kernel_rfl

set_option maxRecDepth 100000 in
set_option maxHeartbeats 8000000 in
theorem list_any (hE : Env w0 P A L) (F : Nat) (hF : ∀ f, f ≤ F → FormC w0 P A c L f) (n : Nat) (n1 : 1 ≤ n) (n3 : n ≤ 3) (f : Nat) (hf : f ≤ F) (o : Out) (hS : St w0 P A c L w k) (hop : isNext [40] (L.drop k) = true) (hrun : run f (.list n []) (L.drop (k + 1)) = o) (hne : o ≠ .tired) :
    Calls Tryz.prog 67 #[.pointer (some ⟨P, 0, none⟩), .int .i64 (n : Int)] w (EndsL w0 P A c L w k o) := by
  obtain ⟨i0, hi, hz0, hz1, hz2⟩ := info_parts infoEx
  have hl := hS.lt
  have hx := expect_c hE hS ⟨#[40]⟩ hop
  have HX := Lib.hid hx
  have HE := Lib.hid hE
  have HF := Lib.hid hF
  obtain ⟨f, rfl⟩ : ∃ g, f = g + 1 := by
    cases f with
    | zero => exact absurd hrun.symm hne
    | succ f => exact ⟨f, rfl⟩
  rw [run_list] at hrun
  clear hx hE hF hop hS
  go_enter Tryz.func67, Tryz.ntmps67
  go_wp2_with fail
  refine HX.out.mono ?_; rintro e w1 ⟨rfl, hk1, hS1, hg1⟩
  clear HX
  cases ho : run f (.form 0) (L.drop (k + 1)) with
  | tired => rw [ho] at hrun; exact absurd hrun.symm hne
  | bad r =>
    rw [ho] at hrun
    subst hrun
    have HC := Lib.hid (HF.out f (by omega) 0 w1 (k + 1) _ (by omega) ho (by simp) hS1)
    have HG1 := Lib.hid hg1
    clear hS1 hg1 ho hne
    go_wp2_with fail
    refine HC.out.mono ?_; intro e w2 he
    obtain ⟨v, rfl, hw, hg2⟩ := ends_bad rfl he
    have HW := Lib.hid (And.intro hw hg2)
    clear he hw hg2
    go_wp2_with fail
    exact ⟨rfl, v, rfl, HW.out.1, grown_trans HG1.out HW.out.2⟩
  | ok l1 r1 =>
    obtain ⟨x, rfl⟩ := run_form_one f _ _ _ _ (fun n acc => by simp) ho
    rw [ho] at hrun
    simp only [List.nil_append] at hrun
    have HC := Lib.hid (HF.out f (by omega) 0 w1 (k + 1) _ (by omega) ho (by simp) hS1)
    have HG1 := Lib.hid hg1
    have HRun := Lib.hid hrun
    have HNe := Lib.hid hne
    clear hS1 hg1 ho hne hrun
    go_wp2_with fail
    refine HC.out.mono ?_; intro e w2 he
    obtain ⟨d, B, m, cp, k2, rfl, hx2, rfl, hk2, hS2, hg2⟩ := ends_ok rfl he
    have hgw : w.grownBy w2 (some P) := grown_trans HG1.out hg2
    have hsz1 := HG1.out.size
    have hsz2 := hg2.size
    have hI0 : LsI w0 P A c L w k [⟨x, d, B, m, cp⟩] (.slice (some ⟨w2.heap.size, 0, none⟩) 1 1) (w2.alloc (.cells #[.int .i64 d.op, .int .i64 d.k, .int .i64 d.n, .string d.s, .string d.nm, .slice B m cp] 26)) k2 := by
      refine ⟨⟨rfl, .inr ⟨w2.heap.size, 1, #[.int .i64 d.op, .int .i64 d.k, .int .i64 d.n, .string d.s, .string d.nm, .slice B m cp], rfl, by omega, World.alloc_heap_new w2 _, Nat.le_refl _, by decide, rfl, rfl⟩⟩, fun e he => ?_, hS2.keep (b_new _ _), grown_trans hgw (grown_below (b_new _ _) _), by omega⟩
      simp at he; subst he
      exact IsP.keep (fun b _ hb => (b_new w2 _).block b hb) (fun b hb hlt => ⟨by have h1 : w1.heap.size ≤ b := hb; omega, by simp [Value.ownBlock]; omega⟩) _ _ _ _ hx2
    have HI0 := Lib.hid hI0
    clear hI0 he hx2 hS2 hg2 hgw HC HG1
    go_wp2_with fail
    go_loopw [5] (fun v wr => ∃ (es : List El) (f2 k' : Nat), LsI w0 P A c L w k es v wr k' ∧ f2 ≤ F ∧ cont f2 n (es.map El.x) (L.drop k') = o ∧ 0 < es.length ∧ es.length ≤ n) (fun v _ => n - vlen v)
    case atStart => exact ⟨_, f, k2, HI0.out, by omega, HRun.out, by simp, by simp; omega⟩
    case round =>
      obtain ⟨es, f2, k', hI, hf2, hcont, hpos, hle⟩ := hrel
      obtain ⟨g, cap, rfl, hgl, hgs, hlc, hcm, hcl⟩ := own_form hI.own hpos
      have hlen : (es.map El.x).length = es.length := List.length_map _
      unfold cont at hcont
      rw [hlen] at hcont
      by_cases hlt : es.length < n
      · rw [if_pos hlt] at hcont
        have t1 : (es.length : Int) < (n : Int) := by omega
        cases hc : isNext [44] (L.drop k') with
        | false =>
          rw [hc] at hcont
          simp only [Bool.false_eq_true, if_false] at hcont
          subst hcont
          have HX := Lib.hid (expect_no HE.out hI.st ⟨#[44]⟩ hc)
          have HG := Lib.hid hI.grown
          clear hI hcl hc HI0 HRun
          go_wp2_with fail
          refine HX.out.mono ?_; rintro e w3 ⟨v, rfl, hw, mm, rfl⟩
          have HW := Lib.hid hw
          clear hw
          go_wp2_with fail
          exact ⟨rfl, v, rfl, HW.out, grown_trans HG.out (grown_below (b_drewN (Below.refl _ _) _) _)⟩
        | true =>
          rw [hc] at hcont
          simp only [if_true, List.tail_drop] at hcont
          have HX := Lib.hid (expect_c HE.out hI.st ⟨#[44]⟩ hc)
          obtain ⟨f3, rfl⟩ : ∃ g, f2 = g + 1 := by
            cases f2 with
            | zero => exact absurd hcont.symm HNe.out
            | succ f => exact ⟨f, rfl⟩
          rw [run_list] at hcont
          have HI := Lib.hid hI
          clear hI hcl hc HI0 HRun
          go_wp2_with fail
          refine HX.out.mono ?_; rintro e w3 ⟨rfl, hk3, hS3, hg3⟩
          have hI3 := HI.out.keep hl hS3 hg3 (Nat.le_succ _)
          cases ho : run f3 (.form 0) (L.drop (k' + 1)) with
          | tired => rw [ho] at hcont; exact absurd hcont.symm HNe.out
          | bad r =>
            rw [ho] at hcont
            subst hcont
            have HC := Lib.hid (HF.out f3 (by omega) 0 w3 (k' + 1) _ (by omega) ho (by simp) hS3)
            have HG := Lib.hid hI3.grown
            clear hS3 hg3 ho hI3 HI HX
            go_wp2_with fail
            refine HC.out.mono ?_; intro e w4 he
            obtain ⟨v, rfl, hw, hg4⟩ := ends_bad rfl he
            have HW := Lib.hid (And.intro hw hg4)
            clear he hw hg4
            go_wp2_with fail
            exact ⟨rfl, v, rfl, HW.out.1, grown_trans HG.out HW.out.2⟩
          | ok l2 r2 =>
            obtain ⟨y, rfl⟩ := run_form_one f3 _ _ _ _ (fun n acc => by simp) ho
            rw [ho] at hcont
            have HC := Lib.hid (HF.out f3 (by omega) 0 w3 (k' + 1) _ (by omega) ho (by simp) hS3)
            have HI3 := Lib.hid hI3
            have HCont := Lib.hid hcont
            clear hS3 hg3 ho hI3 HI HX hcont
            go_wp2_with fail
            refine HC.out.mono ?_; intro e w4 he
            obtain ⟨d4, B4, m4, cp4, k4, rfl, hx4, rfl, hk4, hS4, hg4⟩ := ends_ok rfl he
            have hown := (HI3.out.own.kept hg4 (.inr (own_ne hl HI3.out.own))).alloc (.cells #[.int .i64 d4.op, .int .i64 d4.k, .int .i64 d4.n, .string d4.s, .string d4.nm, .slice B4 m4 cp4] 26)
            have hsz4 := hg4.size
            have hsz3 := HI3.out.grown.size
            have H4 := Lib.hid (And.intro hx4 (And.intro hS4 (And.intro hg4 hk4)))
            clear he hx4 hS4 hg4
            go_wp2_with (at_builtin; refine wpList_append_own_at _ rfl _ _ 24 rfl w.heap.size 26 i0 (.agg #[.int .i64 0, .int .i64 0, .int .i64 0, .string ⟨#[]⟩, .string ⟨#[]⟩, .slice none 0 0]) 6 80 Tryz.underlying24 hi hz0 hz1 hz2 rfl (by decide) _ _ _ rfl hown ⟨w4.heap.size, 0, none⟩ 1 1 [.int .i64 d4.op, .int .i64 d4.k, .int .i64 d4.n, .string d4.s, .string d4.nm, .slice B4 m4 cp4] rfl rfl ?c1 ?c2 ?c3 ?c4 ?c5 ?_)
            case c1 => exact World.news_of_block (cs := #[.int .i64 d4.op, .int .i64 d4.k, .int .i64 d4.n, .string d4.s, .string d4.nm, .slice B4 m4 cp4]) (t := 26) (fr := (0, 0)) (World.alloc_heap_new w4 _)
            case c2 => simp [Value.oneCell']
            case c3 => unfold maxLen; omega
            case c4 => omega
            case c5 => simp; omega
            intro v' w5 hown5 hgrow5 _ hloc
            have hN := HI3.out.step hl HE.out.hP H4.out.1 H4.out.2.1 H4.out.2.2.1 H4.out.2.2.2 hown5 hgrow5 (by rw [World.size_alloc]; exact hloc)
            obtain ⟨A5, c5, rfl⟩ := own_slice hown5
            have HN := Lib.hid hN
            clear hN hown5 hgrow5 hown hloc
            go_wp2_with fail
            go_roundw
            case rel => exact ⟨_, f3, k4, HN.out, by omega, by rw [List.map_append]; exact HCont.out, by simp, by simp; omega⟩
            case measure => simp [vlen]; omega
      · have hn : n = es.length := by omega
        subst hn
        rw [if_neg hlt] at hcont
        have t1 : ¬ (es.length : Int) < (es.length : Int) := by omega
        cases hc : isNext [41] (L.drop k') with
        | false =>
          rw [hc] at hcont
          simp only [Bool.false_eq_true, if_false] at hcont
          subst hcont
          have HX := Lib.hid (expect_no HE.out hI.st ⟨#[41]⟩ hc)
          have HG := Lib.hid hI.grown
          clear hI hcl hc HI0 HRun
          go_wp2_with fail
          refine HX.out.mono ?_; rintro e w3 ⟨v, rfl, hw, mm, rfl⟩
          have HW := Lib.hid hw
          clear hw
          go_wp2_with fail
          exact ⟨rfl, v, rfl, HW.out, grown_trans HG.out (grown_below (b_drewN (Below.refl _ _) _) _)⟩
        | true =>
          rw [hc] at hcont
          simp only [if_true, List.tail_drop] at hcont
          subst hcont
          have HX := Lib.hid (expect_c HE.out hI.st ⟨#[41]⟩ hc)
          have HI := Lib.hid hI
          clear hI hcl hc HI0 HRun
          go_wp2_with fail
          refine HX.out.mono ?_; rintro e w3 ⟨rfl, hk3, hS3, hg3⟩
          have hI3 := HI.out.keep hl hS3 hg3 (Nat.le_succ _)
          have HR := Lib.hid (hI3.done hpos (by omega))
          have HI3 := Lib.hid hI3
          clear hI3 hg3 hS3 HI HX
          go_wp2_with fail
          go_ret
          exact ⟨g, cap, k' + 1, by rw [hlen]; rfl, HR.out, rfl, HI3.out.le, HI3.out.st, HI3.out.grown, by rw [hlen]; omega⟩
end
end Go.Proofs.YtjjchbafobcofaaGreatDoor.PsL
