/- The reference's ExprOf (P4.4). -/
import Derived.Test.YtjjchbafobcofaaGreatDoorClAll
import Derived.Test.YtjjchbafobcofaaGreatDoorPsParse
import Derived.Test.YtjjchbafobcofaaGreatDoorLexRefEnd
import Derived.Test.YtjjchbafobcofaaGreatDoorExRef
namespace Go.Proofs.YtjjchbafobcofaaGreatDoor.ClO
open Go.RowKit
open LexM ExM Kit ExL ExP PsM PsT NmC Ps PsR PsD PsE Cl ClM
set_option linter.unusedVariables false

/-! ### A formula has no more nodes than tokens -/
def GoodN : Job → List Tk → List Ex → List Tk → Prop
  | .form _, ts, L, r => ∃ x, L = [x] ∧ x.nodes + r.length ≤ ts.length
  | .loop _ x, ts, L, r => ∃ y, L = [y] ∧ y.nodes + r.length ≤ x.nodes + ts.length
  | .list _ acc, ts, L, r => nodesL L + r.length ≤ nodesL acc + ts.length
theorem nodes_opN (op : Nat) (l : List Ex) : (opN op l).nodes = 1 + nodesL l := nodes_mk _ _
theorem leaf_nodes {t : Tk} {x : Ex} (h : leafN t = some x) : x.nodes = 1 := by
  unfold leafN at h
  repeat' split at h
  all_goals first | (cases h; done) | (injection h with h; subst h; rw [nodes_mk, nodesL_nil])
theorem next_len {s : List UInt8} {r : List Tk} (h : isNext s r = true) : r.length = 1 + r.tail.length := by
  cases r with
  | nil => simp [isNext] at h
  | cons t r => simp; omega
theorem run_nodes : ∀ (f : Nat) (j : Job) (ts : List Tk) (L : List Ex) (r : List Tk), run f j ts = .ok L r → GoodN j ts L r
  | 0, j, ts, L, r, h => by simp [run] at h
  | f + 1, .form q, ts, L, r, h => by
    unfold run at h
    split at h
    · cases ts with
      | nil => cases h
      | cons t r0 =>
        simp only at h
        split at h
        · rename_i op hop
          cases hr : run f (.form 5) r0 with
          | bad _ => rw [hr] at h; cases h
          | tired => rw [hr] at h; cases h
          | ok L' r' =>
            rw [hr] at h
            simp only [wrap, Out.ok.injEq] at h
            obtain ⟨rfl, rfl⟩ := h
            obtain ⟨x, rfl, hx⟩ := run_nodes f (.form 5) _ _ _ hr
            exact ⟨_, rfl, by rw [nodes_opN, nodesL_cons, nodesL_nil, List.length_cons]; omega⟩
        · split at h
          · have hC := run_nodes f (.list 1 []) _ _ _ h
            obtain ⟨y, hy⟩ := PsL.run_form_one.run_list_one f 1 [] r0 L r rfl h
            subst hy
            have hC : nodesL ([] ++ [y]) + r.length ≤ nodesL [] + r0.length := hC
            rw [List.nil_append, nodesL_cons, nodesL_nil] at hC
            exact ⟨y, rfl, by rw [List.length_cons]; omega⟩
          · split at h
            · rename_i op hop
              split at h
              · rename_i hnx
                have hn := next_len hnx
                cases hr : run f (.list (arity op) []) r0.tail with
                | bad _ => rw [hr] at h; cases h
                | tired => rw [hr] at h; cases h
                | ok L' r' =>
                  rw [hr] at h
                  simp only [wrap, Out.ok.injEq] at h
                  obtain ⟨rfl, rfl⟩ := h
                  have hC : nodesL L' + r'.length ≤ nodesL [] + r0.tail.length := run_nodes f (.list (arity op) []) _ _ _ hr
                  rw [nodesL_nil] at hC
                  exact ⟨_, rfl, by rw [nodes_opN, List.length_cons]; omega⟩
              · cases h
            · split at h
              · rename_i x hx
                simp only [Out.ok.injEq] at h
                obtain ⟨rfl, rfl⟩ := h
                exact ⟨x, rfl, by rw [leaf_nodes hx, List.length_cons]; omega⟩
              · cases h
    · cases hr : run f (.form (q + 1)) ts with
      | bad _ => rw [hr] at h; cases h
      | tired => rw [hr] at h; cases h
      | ok L' r' =>
        rw [hr] at h
        obtain ⟨x, rfl, hx⟩ := run_nodes f (.form (q + 1)) _ _ _ hr
        simp only at h
        obtain ⟨y, rfl, hy⟩ := run_nodes f (.loop q x) _ _ _ h
        exact ⟨y, rfl, by omega⟩
  | f + 1, .loop q x, ts, L, r, h => by
    unfold run at h
    cases ts with
    | nil =>
      simp only [Out.ok.injEq] at h
      obtain ⟨rfl, rfl⟩ := h
      exact ⟨x, rfl, Nat.le_refl _⟩
    | cons t r0 =>
      simp only at h
      split at h
      · simp only [Out.ok.injEq] at h
        obtain ⟨rfl, rfl⟩ := h
        exact ⟨x, rfl, Nat.le_refl _⟩
      · rename_i op hop
        cases hr : run f (.form (q + 1)) r0 with
        | bad _ => rw [hr] at h; cases h
        | tired => rw [hr] at h; cases h
        | ok L' r' =>
          rw [hr] at h
          obtain ⟨y, rfl, hy⟩ := run_nodes f (.form (q + 1)) _ _ _ hr
          simp only at h
          have hn : (opN op [x, y]).nodes = 1 + (x.nodes + y.nodes) := by rw [nodes_opN, nodesL_cons, nodesL_cons, nodesL_nil]; omega
          split at h
          · simp only [Out.ok.injEq] at h
            obtain ⟨rfl, rfl⟩ := h
            exact ⟨_, rfl, by rw [hn, List.length_cons]; omega⟩
          · obtain ⟨z, rfl, hz⟩ := run_nodes f (.loop q (opN op [x, y])) _ _ _ h
            exact ⟨z, rfl, by rw [List.length_cons]; omega⟩
  | f + 1, .list n acc, ts, L, r, h => by
    unfold run at h
    cases hr : run f (.form 0) ts with
    | bad _ => rw [hr] at h; cases h
    | tired => rw [hr] at h; cases h
    | ok L' r' =>
      rw [hr] at h
      obtain ⟨x, rfl, hx⟩ := run_nodes f (.form 0) _ _ _ hr
      simp only at h
      split at h
      · split at h
        · rename_i hnx
          have hn := next_len hnx
          have hC : nodesL L + r.length ≤ nodesL (acc ++ [x]) + r'.tail.length := run_nodes f (.list n (acc ++ [x])) _ _ _ h
          rw [nodesL_snoc] at hC
          show nodesL L + r.length ≤ nodesL acc + ts.length
          omega
        · cases h
      · split at h
        · rename_i hnx
          have hn := next_len hnx
          simp only [Out.ok.injEq] at h
          obtain ⟨rfl, rfl⟩ := h
          show nodesL (acc ++ [x]) + r'.tail.length ≤ nodesL acc + ts.length
          rw [nodesL_snoc]; omega
        · cases h
theorem ev_nodes {ts r : List Tk} {x : Ex} (h : Ev (.form 0) ts (.ok [x] r)) : x.nodes ≤ ts.length := by
  obtain ⟨_, f, hf⟩ := h
  obtain ⟨y, e, hy⟩ := run_nodes f (.form 0) _ _ _ (hf f (Nat.le_refl _))
  injection e with e _; subst e; omega

theorem cenv_of {w1 : World} {base : Nat} {l : List UInt8} {ts : List Tk} {A : Option Addr} {c : Nat} (hlen : l.length ≤ 160) (htk : tokens l 0 = .ok ts) (ho : w1.ownsRow base 42 6 (.slice A ts.length c) ts.length (Lex.tksC ts)) (P : Nat) (hP : w1.heap.size ≤ P) : CEnv w1 P A ts := by
  refine ⟨Nat.le_trans (few l 0 ts htk) hlen, fun i h => ?_, hP⟩
  obtain ⟨g, cap, hA, _, _, _, _, q⟩ := Lex.own_form ho (by omega)
  injection hA with hA _ _
  exact ⟨g, hA, fun j hj => by rw [q (i * 6 + j) (by omega), tksC_get ts i h j hj]⟩

set_option maxRecDepth 100000 in
set_option maxHeartbeats 16000000 in
theorem exprOf_any (s : ByteArray) (w : World) (hs : s.size ≤ 140737488351232) (hv : LexT.Vars w) :
    Calls Tryz.prog 5 #[.string s] w (ParsedOut w (PR s.data.toList)) := by
  obtain ⟨W, hW⟩ : ∃ W, w.alloc (.cells #[.int .i64 0, .int .i64 0, .int .i64 0, .string ⟨#[]⟩, .string ⟨#[]⟩, .slice none 0 0] 26) = W := ⟨_, rfl⟩
  have hb : Below w.heap.size w W := by rw [← hW]; exact b_new _ _
  have hsz : W.heap.size = w.heap.size + 1 := by rw [← hW]; simp
  have hz : Boxz W w.heap.size := by rw [← hW]; exact boxz_at w
  have hc := LexRef.refTokens_any s W hs (hv.below hb)
  have hL := Lex.lex_cases s.data.toList
  obtain ⟨R, hR⟩ : ∃ R, PR s.data.toList = R := ⟨_, rfl⟩
  have HW := Lib.hid hW
  have HC := Lib.hid hc
  have HL := Lib.hid hL
  have HR := Lib.hid hR
  rw [hR]
  clear hW hc hL hR
  go_enter Tryz.func5, Tryz.ntmps5
  go_upto_region 1 with fail
  rw [HW.out]
  go_wp2_with fail
  refine HC.out.mono ?_
  rintro e w1 ⟨v, rfl, ho, hb1⟩
  have k1 := boxz_keep hz hb1
  have hB1 : Below w.heap.size w w1 := hb.trans (hb1.mono hb.size)
  obtain ⟨c1, f1⟩ := cells_of k1
  have l1 := (Array.getElem?_eq_some_iff.1 k1).1
  clear HC HW
  have hcases : (∃ ts, s.data.toList.length ≤ 160 ∧ tokens s.data.toList 0 = .ok ts ∧ lexR s.data.toList = (ts, 0, 0)) ∨ ∃ (p : Nat) (e : Int), lexR s.data.toList = ([], p, e) ∧ e ≠ 0 := by
    rcases HL.out with h | ⟨_, h⟩ | ⟨p, e, ts, _, _, he, h, _⟩
    · exact .inl h
    · exact .inr ⟨_, _, h, by decide⟩
    · exact .inr ⟨p, e, h, by rcases he with rfl | rfl | rfl <;> decide⟩
  clear HL
  rcases hcases with ⟨ts, hlen, htk, hl⟩ | ⟨p, e, hl, he⟩
  · rw [hl] at ho ⊢
    dsimp only
    obtain ⟨A, c, rfl⟩ := Lex.own_slice ho
    obtain ⟨P, hP⟩ : ∃ P, w1.heap.size = P := ⟨_, rfl⟩
    obtain ⟨W2, hW2⟩ : ∃ W2, w1.alloc (.cells #[.slice A ts.length c, .int .i64 0, .bool false] 39) = W2 := ⟨_, rfl⟩
    have hb2 : Below w1.heap.size w1 W2 := by rw [← hW2]; exact b_new _ _
    have sW2 : W2.heap.size = P + 1 := by rw [← hW2, ← hP]; simp
    have hE := cenv_of hlen htk ho P (by omega)
    have hS : CSt w1 P A c ts W2 0 false := ⟨by rw [← hP, ← hW2]; exact World.alloc_heap_new w1 _, hb2, Nat.zero_le _⟩
    obtain ⟨o, hev, hsh⟩ := PsTot.form_total ts
    have hF := (climb_all hE (toks_of hlen htk) ts.length 0 (by omega) (Nat.zero_le _)).2 0 W2 o (by omega) (by rw [List.drop_zero]; exact hev) hS
    rw [show (((0 : Nat)) : Int) + 1 = 1 from rfl] at hF
    have hB2 : Below w.heap.size w W2 := hB1.trans (hb2.mono hB1.size)
    have k2 := boxz_keep k1 hb2
    have hnP : w.heap.size ≠ P := by omega
    have hwP : w.heap.size ≤ P := by omega
    have hmts : ts.length ≤ 160 := hE.len
    have HF := Lib.hid hF
    have HE := Lib.hid hE
    have HW2 := Lib.hid hW2
    have HPq := Lib.hid hP
    have HB2 := Lib.hid hB2
    have K2 := Lib.hid k2
    have HEv := Lib.hid hev
    have HLex := Lib.hid hl
    clear hF hE hW2 hP hB2 k2 hev hl hsh hS hb2 hB1 k1 c1 f1 l1 ho hb1 htk hlen hb hz
    go_upto_region 5 with fail
    rw [HW2.out, HPq.out]
    go_wp2_with fail
    refine HF.out.mono ?_
    intro e w3 he
    obtain ⟨p0, p1, p2, p3, p4, p5, pm, pc, k', b', rfl, hS3, hg3, hres⟩ := parts_of he
    obtain ⟨X, hX⟩ : ∃ X, w3.heap.size = X := ⟨_, rfl⟩
    obtain ⟨W4, hW4⟩ : ∃ W4, w3.alloc (.cells #[.int .i64 p0, .int .i64 p1, .int .i64 p2, .string p3, .string p4, .slice p5 pm pc] 26) = W4 := ⟨_, rfl⟩
    have hb4 : Below w3.heap.size w3 W4 := by rw [← hW4]; exact b_new _ _
    have hS4 := hS3.keep hb4
    have hr4 : Boxz W4 w.heap.size := boxz_keep (boxz_grown K2.out hg3 hnP) hb4
    have hx4 : W4.heap[X]? = some (.cells #[.int .i64 p0, .int .i64 p1, .int .i64 p2, .string p3, .string p4, .slice p5 pm pc] 26 (0, 0)) := by rw [← hX, ← hW4]; exact World.alloc_heap_new w3 _
    have hB3 : Below w.heap.size w w3 := HB2.out.grown hg3 HB2.out.size (fun j e => by injection e with e; omega)
    have hB4 : Below w.heap.size w W4 := hB3.trans (hb4.mono hB3.size)
    have hle := hS4.le
    have hXw : w.heap.size ≠ X := by have := hg3.size; omega
    obtain ⟨z0, z1⟩ := cells_of hr4
    obtain ⟨x0', x1'⟩ := cells_of hx4
    obtain ⟨h0, h1, h2⟩ := hS4.at
    have lR := (Array.getElem?_eq_some_iff.1 hr4).1
    have HW4 := Lib.hid hW4
    have HX := Lib.hid hX
    have HB4 := Lib.hid hB4
    have HI4 : b' = false → ∃ x, o = .ok [x] (ts.drop k') ∧ Is W4 x ⟨p0, p1, p2, p3, p4⟩ p5 pm ∧ IsP (fun b => W2.heap.size ≤ b) W4 x ⟨p0, p1, p2, p3, p4⟩ p5 pm := fun e => by
      rcases hres with ⟨e', _⟩ | ⟨_, _, x, e2, hix⟩
      · rw [e] at e'; cases e'
      · exact ⟨x, e2, (hix.below hb4).is, hix.below hb4⟩
    have hbad : b' = true → o = .bad (ts.drop k') := fun e => by
      rcases hres with ⟨_, h⟩ | ⟨e', _⟩
      · exact h
      · rw [e] at e'; cases e'
    have hR3 : ((b' = true) ∨ k' < ts.length) → R x0 (atOf (s.size : Int) (ts.drop k')) 3 := fun hor => by
      rw [← HR.out]
      refine .inr ⟨ts, o, HLex.out, HEv.out, .inr ⟨ts.drop k', ?_, by rw [ValM.len_size], rfl, rfl⟩⟩
      cases b' with
      | true => exact .inr (hbad rfl)
      | false =>
        obtain ⟨x, e2, _⟩ := HI4 rfl
        refine .inl ⟨x, e2, fun e => ?_⟩
        rcases hor with h | h
        · cases h
        · have := congrArg List.length e
          rw [List.length_drop] at this
          simp at this
          omega
    have HI := Lib.hid HI4
    have HR3 := Lib.hid hR3
    have HS4 := Lib.hid hS4
    have HXB := Lib.hid hx4
    have HRB := Lib.hid hr4
    have lX := (Array.getElem?_eq_some_iff.1 hx4).1
    clear hW4 hX hB4 HI4 hR3 hb4 hS3 hg3 hres he hr4 hx4 hB3 hbad hS4 HF K2 HB2
    go_upto_region 6 with fail
    rw [HW4.out, HX.out]
    by_cases hk : k' < ts.length
    · obtain ⟨g, rfl, d0, d1, d2, d3, d4, d5⟩ := ctok_cells HE.out HS4.out hk
      have t1 : (k' : Int) < (ts.length : Int) := by omega
      have t2 : (0 : Int) ≤ (k' : Int) := by omega
      have t3 : ((k' : Int)).toNat = k' := by omega
      have hat : atOf (s.size : Int) (ts.drop k') = ts[k'].pos := by rw [List.drop_eq_getElem_cons hk]; rfl
      have HRR := Lib.hid (HR3.out (.inr hk))
      rw [hat] at HRR
      clear hat HR3 HI
      cases b'
      all_goals
        go_wp2_with fail
        refine bodyPost_ret (v := .tuple #[.agg #[.int .i64 0, .int .i64 0, .int .i64 0, .string ⟨#[]⟩, .string ⟨#[]⟩, .slice none 0 0], .int .i64 ts[k'].pos, .int .i64 3]) (by simp [results, Tryz.results5, go_sem, z0]) rfl ⟨x0, ⟨0, 0, 0, ⟨#[]⟩, ⟨#[]⟩⟩, none, 0, 0, _, _, rfl, isP_leaf _ _ _ _ (Nat.zero_le _) (Nat.zero_le _), HRR.out, LexT.b_set6 HB4.out _ (Nat.le_refl _) _ _ _ _ _ _⟩
    · have hkl : k' = ts.length := by omega
      have hdn : ts.drop k' = [] := List.drop_eq_nil_of_le (by omega)
      have t1 : ¬ (k' : Int) < (ts.length : Int) := by omega
      cases b' with
      | true =>
        have hrr := HR3.out (.inl rfl)
        rw [hdn] at hrr
        have HRR := Lib.hid hrr
        clear hrr hkl hdn HR3 HI
        go_wp2_with fail
        refine bodyPost_ret (v := .tuple #[.agg #[.int .i64 0, .int .i64 0, .int .i64 0, .string ⟨#[]⟩, .string ⟨#[]⟩, .slice none 0 0], .int .i64 (s.size : Int), .int .i64 3]) (by simp [results, Tryz.results5, go_sem, z0]) rfl ⟨x0, ⟨0, 0, 0, ⟨#[]⟩, ⟨#[]⟩⟩, none, 0, 0, _, _, rfl, isP_leaf _ _ _ _ (Nat.zero_le _) (Nat.zero_le _), HRR.out, LexT.b_set6 HB4.out _ (Nat.le_refl _) _ _ _ _ _ _⟩
      | false =>
        obtain ⟨x, ho, his, hisP⟩ := HI.out rfl
        rw [hdn] at ho
        subst ho
        have hxn := ev_nodes HEv.out
        have hck := ExR.fault_any x ⟨p0, p1, p2, p3, p4⟩ p5 pm pc W4 (by omega) his
        obtain ⟨q, hq⟩ : ∃ q, x.checkE = q := ⟨_, rfl⟩
        rw [hq] at hck
        have HCK := Lib.hid hck
        have HQ := Lib.hid hq
        have HIP := Lib.hid hisP
        have HS5 := Lib.hid sW2
        have HXX := Lib.hid x0'
        have HZZ := Lib.hid z0
        clear hck hq his hisP hkl hdn HR3 HI hxn
        go_wp2_with fail
        refine HCK.out.mono ?_
        rintro e w5 ⟨rfl, hb5⟩
        have hr5 := boxz_keep HRB.out hb5
        have hx5 := (hb5.block X lX).trans HXB.out
        obtain ⟨y0, y1⟩ := cells_of hr5
        obtain ⟨u0, u1⟩ := cells_of hx5
        have l5 := (Array.getElem?_eq_some_iff.1 hr5).1
        have HB5 := Lib.hid (HB4.out.trans (hb5.mono HB4.out.size))
        have HIP5 := Lib.hid (HIP.out.below hb5)
        clear hr5 hx5 hb5 HIP HXB HRB lX lR z0 z1 x0' x1' h0 h1 h2
        by_cases hq0 : q = 0
        · subst hq0
          go_wp2_with fail
          refine bodyPost_ret (v := .tuple #[.agg #[.int .i64 p0, .int .i64 p1, .int .i64 p2, .string p3, .string p4, .slice p5 pm pc], .int .i64 0, .int .i64 0]) (by simp [results, Tryz.results5, go_sem, y0]) rfl ⟨x, ⟨p0, p1, p2, p3, p4⟩, p5, pm, pc, 0, 0, rfl, ?_, ?_, LexT.b_set6 HB5.out _ (Nat.le_refl _) _ _ _ _ _ _⟩
          · exact IsP.keep (fun b hb _ => s6_heap w5 w.heap.size b (by have h1 : W2.heap.size ≤ b := hb; omega) _ _ _ _ _ _) (fun b hb _ => by have h1 : W2.heap.size ≤ b := hb; show w.heap.size ≤ b; omega) _ _ _ _ HIP5.out
          · rw [← HR.out]; exact .inr ⟨ts, _, HLex.out, HEv.out, .inl ⟨x, rfl, rfl, HQ.out.symm, by rw [HQ.out, if_pos rfl]⟩⟩
        · have e1 : (q == 0) = false := beq_eq_false_iff_ne.2 hq0
          go_wp2_with fail
          refine bodyPost_ret (v := .tuple #[.agg #[.int .i64 0, .int .i64 0, .int .i64 0, .string ⟨#[]⟩, .string ⟨#[]⟩, .slice none 0 0], .int .i64 0, .int .i64 q]) (by simp [results, Tryz.results5, go_sem, y0]) rfl ⟨x0, ⟨0, 0, 0, ⟨#[]⟩, ⟨#[]⟩⟩, none, 0, 0, 0, q, rfl, isP_leaf _ _ _ _ (Nat.zero_le _) (Nat.zero_le _), ?_, LexT.b_set6 HB5.out _ (Nat.le_refl _) _ _ _ _ _ _⟩
          rw [← HR.out]; exact .inr ⟨ts, _, HLex.out, HEv.out, .inl ⟨x, rfl, rfl, HQ.out.symm, by rw [HQ.out, if_neg hq0]⟩⟩
  · rw [hl] at ho ⊢
    dsimp only
    have e1 : (e == 0) = false := beq_eq_false_iff_ne.2 he
    have HB1 := Lib.hid hB1
    clear ho hb hb1 hB1 k1
    go_wp2_with fail
    refine bodyPost_ret (v := .tuple #[.agg #[.int .i64 0, .int .i64 0, .int .i64 0, .string ⟨#[]⟩, .string ⟨#[]⟩, .slice none 0 0], .int .i64 p, .int .i64 e]) (by simp [results, Tryz.results5, go_sem, c1]) rfl ⟨x0, ⟨0, 0, 0, ⟨#[]⟩, ⟨#[]⟩⟩, none, 0, 0, _, _, rfl, isP_leaf _ _ _ _ (Nat.zero_le _) (Nat.zero_le _), ?_, LexT.b_set6 HB1.out _ (Nat.le_refl _) _ _ _ _ _ _⟩
    exact (by rw [← HR.out]; exact .inl ⟨p, e, hl, he, rfl, rfl, rfl⟩)
/-- There is one answer. -/
theorem pr_unique {l : List UInt8} {x y : Ex} {a b p q : Int} (h1 : PR l x a p) (h2 : PR l y b q) : x = y ∧ a = b ∧ p = q := by
  rcases h1 with ⟨n, e, e1, e2, e3, e4, e5⟩ | ⟨ts, o, e1, e2, e3⟩ <;> rcases h2 with ⟨m, f, f1, f2, f3, f4, f5⟩ | ⟨us, u, f1, f2, f3⟩
  · rw [e1] at f1
    simp only [Prod.mk.injEq, true_and] at f1
    obtain ⟨rfl, rfl⟩ := f1
    exact ⟨e3.trans f3.symm, e4.trans f4.symm, e5.trans f5.symm⟩
  · rw [e1] at f1
    simp only [Prod.mk.injEq] at f1
    exact absurd f1.2.2 e2
  · rw [e1] at f1
    simp only [Prod.mk.injEq] at f1
    exact absurd f1.2.2.symm f2
  · rw [e1] at f1
    simp only [Prod.mk.injEq, and_true] at f1
    subst f1
    obtain rfl := e2.unique f2
    rcases e3 with ⟨x', rfl, g1, g2, g3⟩ | ⟨r, g0, g1, g2, g3⟩ <;> rcases f3 with ⟨y', h0, h1, h2, h3⟩ | ⟨r', h0, h1, h2, h3⟩
    · simp only [Out.ok.injEq, List.cons.injEq, and_true] at h0
      subst h0
      exact ⟨g3.trans h3.symm, g1.trans h1.symm, g2.trans h2.symm⟩
    · exfalso
      rcases h0 with ⟨z, e, hne⟩ | e
      · simp only [Out.ok.injEq] at e
        exact hne e.2.symm
      · cases e
    · exfalso
      rcases g0 with ⟨z, e, hne⟩ | e
      · rw [h0] at e
        simp only [Out.ok.injEq] at e
        exact hne e.2.symm
      · rw [h0] at e; cases e
    · have hr : r = r' := by
        rcases g0 with ⟨z, rfl, _⟩ | rfl <;> rcases h0 with ⟨z', e, _⟩ | e
        · simp only [Out.ok.injEq] at e; exact e.2
        · cases e
        · cases e
        · simp only [Out.bad.injEq] at e; exact e
      subst hr
      exact ⟨g3.trans h3.symm, g1.trans h1.symm, g2.trans h2.symm⟩
end Go.Proofs.YtjjchbafobcofaaGreatDoor.ClO
