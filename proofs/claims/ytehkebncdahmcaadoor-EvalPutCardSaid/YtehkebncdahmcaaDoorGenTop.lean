/- The statements' own generator of formulas: what it gives is valid; Expr, Some. -/
import Derived.Test.YtehkebncdahmcaaDoorGenExpr
namespace Go.Proofs.YtehkebncdahmcaaDoor.GenT
open Go.RowKit
open ValM LexM NumM ExM Kit ExL ExP RawV Within RawL GenL Gen GenE
set_option linter.unusedVariables false

/-! ### What is made is valid -/
theorem leafD_ok {fs : List GenL.Fd} {kind : Int} {d : Nd} (hfs : ∀ f ∈ fs, nmB f.nm.data.toList = true) (h : LeafD fs kind d) : nodeE d 0 = 0 := by
  unfold nodeE
  rcases h with ⟨h1, h2, h3, h4, h5⟩ | ⟨h1, h2, h3, h4, f, hf, h6, h7⟩
  · rw [if_neg (by omega), if_pos]
    refine ⟨by rw [h1]; rfl, ?_, ?_⟩
    · unfold vOk
      rw [if_pos h1, h4]
      by_cases hk : d.k = 1
      · have := h5 hk
        rw [decide_eq_false (show ¬ d.n < 0 by omega)]; simp
      · rw [decide_eq_false hk]; simp
    · unfold nmOk
      rw [if_neg (by omega), h2]; rfl
  · rw [if_neg (by omega), if_pos]
    refine ⟨by rw [h1]; rfl, ?_, ?_⟩
    · unfold vOk
      rw [if_neg (by omega), h2, h3, h4]; rfl
    · unfold nmOk
      rw [if_pos h1, ← h6]; exact hfs f hf
theorem opT_ok {op : Int} {ks : List Int} {kind : Int} (h : OpT op ks kind) : nodeE ⟨op, 0, 0, ⟨#[]⟩, ⟨#[]⟩⟩ ks.length = 0 ∧ ks.length ≤ 3 := by
  have hv : ∀ o : Int, o ≠ 1 → vOk ⟨o, 0, 0, ⟨#[]⟩, ⟨#[]⟩⟩ = true := fun o ho => by unfold vOk; rw [if_neg ho]; rfl
  have hn : ∀ o : Int, o ≠ 2 → nmOk ⟨o, 0, 0, ⟨#[]⟩, ⟨#[]⟩⟩ = true := fun o ho => by unfold nmOk; rw [if_neg ho]; rfl
  have key : ∀ o : Int, 3 ≤ o → o ≤ 18 → ∀ m, m = arity o → nodeE ⟨o, 0, 0, ⟨#[]⟩, ⟨#[]⟩⟩ m = 0 := fun o h1 h2 m hm => by
    unfold nodeE
    rw [if_neg (show ¬ (o < 1 ∨ 18 < o) by omega), if_pos ⟨hm, hv o (by omega), hn o (by omega)⟩]
  have ar2 : ∀ o : Int, 5 ≤ o → o ≤ 16 → arity o = 2 := fun o h1 h2 => by unfold arity; rw [if_neg (by omega), if_neg (by omega), if_neg (by omega)]
  rcases h with ⟨rfl, rfl⟩ | ⟨_, ⟨rfl, rfl⟩ | ⟨rfl, rfl⟩ | ⟨h1, h2, rfl⟩⟩ | ⟨_, ⟨rfl, rfl⟩ | ⟨h1, h2, rfl⟩ | ⟨j, _, _, h1, h2, rfl⟩⟩ | ⟨_, _, rfl, rfl⟩
  · exact ⟨key 17 (by decide) (by decide) 3 rfl, by simp⟩
  · exact ⟨key 3 (by decide) (by decide) 1 rfl, by simp⟩
  · exact ⟨key 18 (by decide) (by decide) 1 rfl, by simp⟩
  · exact ⟨key op (by omega) (by omega) 2 (ar2 op (by omega) (by omega)).symm, by simp⟩
  · exact ⟨key 4 (by decide) (by decide) 1 rfl, by simp⟩
  · exact ⟨key op (by omega) (by omega) 2 (ar2 op (by omega) (by omega)).symm, by simp⟩
  · exact ⟨key op (by omega) (by omega) 2 (ar2 op (by omega) (by omega)).symm, by simp⟩
  · exact ⟨key 10 (by decide) (by decide) 2 rfl, by simp⟩
def nb : Nat → Nat
  | 0 => 1
  | k + 1 => 1 + 3 * nb k
theorem nb_pos (k : Nat) : 1 ≤ nb k := by cases k <;> simp [nb]
theorem depthL_le {l : List Ex} {m : Nat} (h : ∀ x ∈ l, x.depth ≤ m) : depthL l ≤ m := by
  induction l with
  | nil => simp [depthL_nil]
  | cons x l ih =>
    rw [depthL_cons]
    have h1 := h x (by simp)
    have h2 := ih fun y hy => h y (by simp [hy])
    omega
theorem nodesL_le {l : List Ex} {m : Nat} (h : ∀ x ∈ l, x.nodes ≤ m) : nodesL l ≤ l.length * m := by
  induction l with
  | nil => simp [nodesL_nil]
  | cons x l ih =>
    rw [nodesL_cons, List.length_cons, Nat.add_mul, Nat.one_mul]
    have h1 := h x (by simp)
    have h2 := ih fun y hy => h y (by simp [hy])
    omega
theorem gn_ok {fs : List GenL.Fd} (hfs : ∀ f ∈ fs, nmB f.nm.data.toList = true) : ∀ (k : Nat) (kind : Int) (x : Ex), Gn fs k kind x → x.okN ∧ x.depth ≤ k + 1 ∧ x.nodes ≤ nb k := by
  have leaf : ∀ (k : Nat) (kind : Int) (x : Ex), (∃ d, x = .mk d [] ∧ LeafD fs kind d) → x.okN ∧ x.depth ≤ k + 1 ∧ x.nodes ≤ nb k := fun k kind x ⟨d, hx, hl⟩ => by
    subst hx
    refine ⟨(okN_mk _ _).2 ⟨leafD_ok hfs hl, fun x hx => by simp at hx⟩, ?_, ?_⟩
    · rw [depth_mk, depthL_nil]; omega
    · rw [nodes_mk, nodesL_nil]; have := nb_pos k; omega
  intro k
  induction k with
  | zero => intro kind x h; exact leaf 0 kind x h
  | succ k ih =>
    intro kind x h
    rcases h with h | ⟨op, ks, l, rfl, ho, hl, hg⟩
    · exact leaf (k + 1) kind x h
    · obtain ⟨o1, o2⟩ := opT_ok ho
      have hall : ∀ y ∈ l, y.okN ∧ y.depth ≤ k + 1 ∧ y.nodes ≤ nb k := fun y hy => by
        obtain ⟨i, hi, rfl⟩ := List.mem_iff_getElem.1 hy
        exact ih _ _ (hg i hi (by omega))
      refine ⟨(okN_mk _ _).2 ⟨by rw [hl]; exact o1, fun y hy => (hall y hy).1⟩, ?_, ?_⟩
      · rw [depth_mk]; have := depthL_le fun y hy => (hall y hy).2.1; omega
      · rw [nodes_mk]
        have h1 := nodesL_le fun y hy => (hall y hy).2.2
        have h2 : l.length * nb k ≤ 3 * nb k := Nat.mul_le_mul_right _ (by omega)
        show _ ≤ 1 + 3 * nb k
        omega
theorem gn_check {fs : List GenL.Fd} (hfs : ∀ f ∈ fs, nmB f.nm.data.toList = true) {kind : Int} {x : Ex} (h : Gn fs 3 kind x) : x.checkE = 0 ∧ x.nodes ≤ 40 ∧ x.depth ≤ 4 ∧ x.okN := by
  obtain ⟨h1, h2, h3⟩ := gn_ok hfs 3 kind x h
  have e : nb 3 = 40 := rfl
  rw [e] at h3
  exact ⟨by rw [checkE_ok (by omega) (by omega)]; exact h1, h3, h2, h1⟩

/-! ### Some -/
def fd (c : UInt8) (ty : Int) : GenL.Fd := ⟨⟨#[c]⟩, 1, ty, ⟨0, 0, 0, ⟨#[]⟩, ⟨#[]⟩⟩, none, 0, 0⟩
def someF : List GenL.Fd := [fd 110 1, fd 109 1, fd 116 2, fd 117 2, fd 115 3]
theorem someF_nm : ∀ f ∈ someF, nmB f.nm.data.toList = true := by decide
theorem someF_sz : ∀ f ∈ someF, f.nm.size ≤ maxLen := fun f hf => by
  have : f.nm.size ≤ 1 := by
    simp only [someF, List.mem_cons, List.not_mem_nil, or_false] at hf
    rcases hf with rfl | rfl | rfl | rfl | rfl <;> exact Nat.le_refl _
  unfold maxLen; omega
set_option maxHeartbeats 1000000 in
theorem some_any (w : World) : Calls Tryd.prog 9 #[] w fun e w' => (∃ A c, e = .returned (.slice A 5 c) ∧ Flds w' A someF) ∧ Below w.heap.size w w' := by
  go_enter Tryd.func9, Tryd.ntmps9
  go_wp2
  go_ret
  refine ⟨⟨some ⟨w.heap.size, 0, none⟩, 5, rfl, fun i hi => ⟨_, rfl, ?_⟩⟩, b_new _ _⟩
  have hn : ∀ (cs : Array Value) (t : TypeId) (o : Nat), (w.alloc (.cells cs t)).cell? ⟨w.heap.size, o, none⟩ = cs[o]? := fun cs t o => by
    have h := World.alloc_heap_new w (.cells cs t)
    unfold World.cell?
    rw [h]
    rfl
  match i, hi with
  | 0, _ => simp [FdAt, Addr.add, hn, someF, fd]
  | 1, _ => simp [FdAt, Addr.add, hn, someF, fd]
  | 2, _ => simp [FdAt, Addr.add, hn, someF, fd]
  | 3, _ => simp [FdAt, Addr.add, hn, someF, fd]
  | 4, _ => simp [FdAt, Addr.add, hn, someF, fd]
  | i + 5, hi => exact absurd hi (by simp [someF])

/-! ### Expr -/
def ExprOut (fs : List GenL.Fd) (kind : Int) (w : World) (e : Ending) (w' : World) : Prop :=
  ∃ (x : Ex) (d : Nd) (B : Option Addr) (m cp : Nat), e = .returned (.agg #[.int .i64 d.op, .int .i64 d.k, .int .i64 d.n, .string d.s, .string d.nm, .slice B m cp]) ∧ Gn fs 3 kind x ∧ IsP (fun b => w.heap.size ≤ b) w' x d B m ∧ Below w.heap.size w w'
set_option maxHeartbeats 1000000 in
theorem make_any (n c fc : Nat) (A FA : Option Addr) (fs : List GenL.Fd) (kind : Int) (w : World) (hr : Raws w A n c) (hf : Flds w FA fs) (hfn : fs.length ≤ 1000000) (hfs : ∀ f ∈ fs, f.nm.size ≤ maxLen) :
    Calls Tryd.prog 7 #[.slice A n c, .int .i64 kind, .slice FA fs.length fc] w (ExprOut fs kind w) := by
  have hE := expr_all 3 (by decide)
  have hc : ∀ o, Calls Tryd.prog 18 #[.pointer (some ⟨w.heap.size + 1, 0, none⟩), .int .i64 kind, .slice FA fs.length fc, .int .i64 3] ((w.alloc o).alloc (.cells #[.slice A n c, .int .i64 0] 53)) (MadeOut (w.heap.size + 1) A n c (0 + cost 3) (Gn fs 3 kind) ((w.alloc o).alloc (.cells #[.slice A n c, .int .i64 0] 53))) := fun o => by
    have hb : Below w.heap.size w ((w.alloc o).alloc (.cells #[.slice A n c, .int .i64 0] 53)) := b_more (b_new _ _) _
    have hg : Gen ((w.alloc o).alloc (.cells #[.slice A n c, .int .i64 0] 53)) (w.heap.size + 1) A n c 0 := by
      have := World.alloc_heap_new (w.alloc o) (.cells #[.slice A n c, .int .i64 0] 53)
      rw [World.size_alloc] at this; exact this
    exact hE (w.heap.size + 1) n c 0 fc A FA fs kind _ hg (hr.keep fun p v0 v1 v2 h0 h2 => hb.block _ (cell_lt' h0)) (hf.below hb) hfn hfs (by decide)
  have HC := Lib.hid hc
  clear hc hE hr hf hfs
  go_enter Tryd.func7, Tryd.ntmps7
  go_wp2_with fail
  refine (HC.out _).mono ?_; rintro e w1 ⟨x, d, B, m, cp, a2, rfl, hx, hisx, ha2, hg7, hgr7⟩
  have hres : w1.heap[w.heap.size]? = some (.cells #[.int .i64 0, .int .i64 0, .int .i64 0, .string ⟨#[]⟩, .string ⟨#[]⟩, .slice none 0 0] 26 (0, 0)) :=
    (hgr7.block _ (by simp; omega) (fun e => by injection e; omega)).trans (((b_new (w.alloc _) _).block _ (by simp)).trans (World.alloc_heap_new w _))
  have hc7 : ∀ o, w1.cell? ⟨w.heap.size, o, none⟩ = (#[.int .i64 0, .int .i64 0, .int .i64 0, .string ⟨#[]⟩, .string ⟨#[]⟩, .slice none 0 0] : Array Value)[o]? := fun o => by simp [World.cell?, hres]
  have hf7 : ∀ o, w1.frozen? ⟨w.heap.size, o, none⟩ = false := fun o => by simp [World.frozen?, hres]
  have hbw : Below w.heap.size w w1 := (b_more (b_new w _) _).trans ⟨hgr7.os, hgr7.tape, hgr7.output, hgr7.size, fun k hk => hgr7.block k (by simp; omega) (fun e => by injection e; omega)⟩
  have HX := Lib.hid (And.intro hx (And.intro hisx hbw))
  clear hx hisx ha2 hg7 hgr7 hres hbw
  go_wp2_with fail
  refine bodyPost_ret (v := .agg #[.int .i64 d.op, .int .i64 d.k, .int .i64 d.n, .string d.s, .string d.nm, .slice B m cp]) (by simp [results, Tryd.results7, go_sem, hc7]) rfl ?_
  refine ⟨x, d, B, m, cp, rfl, HX.out.1, IsP.keep (fun b hb hl => set6_heap (by simp at hb; omega) _ _ _ _ _ _) (fun b hb hl => by simp at hb; omega) _ _ _ _ HX.out.2.1, ?_⟩
  have := HX.out.2.2
  repeat' (first | (with_reducible exact this) | (with_reducible refine b_set ?_ ?_) | (dsimp only; omega))
end Go.Proofs.YtehkebncdahmcaaDoor.GenT
