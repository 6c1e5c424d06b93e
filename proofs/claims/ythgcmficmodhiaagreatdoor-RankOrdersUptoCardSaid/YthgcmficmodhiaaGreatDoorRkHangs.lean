/- Package rank: Hangs: what hangs on a field. -/
import Derived.Test.YthgcmficmodhiaaGreatDoorRkOrd
import Derived.Test.YthgcmficmodhiaaGreatDoorFld
import Derived.Test.YthgcmficmodhiaaGreatDoorFldCheck
import Derived.Test.YthgcmficmodhiaaGreatDoorRegP
namespace Go.Proofs.YthgcmficmodhiaaGreatDoor.RkH
open Go.RowKit Go.Sort
open ValM LexM NumM ExM NmM Kit ExL ExP ExN ExC RawV Within RawL GenL FldP FldR FldC NmO NmA NmI NmT NmR RkM RkA RkB RkC RkD RkO RkT RkP RegI
set_option linter.unusedVariables false

/-! ### plainly -/
/-- What is known after the first k of the order: which of them hang on the place p. -/
def hangK (ns : List (List Nat)) (p : Nat) (o : List Nat) : Nat → Nat → Bool
  | 0, _ => false
  | k + 1, j => if (o[k]?).getD 0 = j ∧ k < o.length then (decide (j = p) || (nd ns j).any (hangK ns p o k)) else hangK ns p o k j
theorem hangK_at {ns : List (List Nat)} {p : Nat} {o : List Nat} {k : Nat} (hk : k < o.length) (j : Nat) : hangK ns p o (k + 1) j = if o[k] = j then (decide (j = p) || (nd ns j).any (hangK ns p o k)) else hangK ns p o k j := by
  show (if (o[k]?).getD 0 = j ∧ k < o.length then _ else _) = _
  rw [List.getElem?_eq_getElem hk, Option.getD_some]
  by_cases h : o[k] = j
  · rw [if_pos ⟨h, hk⟩, if_pos h]
  · rw [if_neg (fun e => h e.1), if_neg h]
def bV (n : Nat) (f : Nat → Bool) : List Value := (List.range n).map fun j => Value.bool (f j)
theorem bV_len (n : Nat) (f : Nat → Bool) : (bV n f).length = n := by unfold bV; simp
theorem bV_at (n : Nat) (f : Nat → Bool) (j : Nat) (h : j < n) : (bV n f)[j]? = some (.bool (f j)) := by unfold bV; rw [List.getElem?_map, List.getElem?_range h]; rfl
theorem bV_set (n : Nat) (f g : Nat → Bool) (k : Nat) (b : Bool) (h : k < n) (hb : g k = b) (hg : ∀ j, j ≠ k → g j = f j) : (bV n f).set k (.bool b) = bV n g := by
  refine List.ext_getElem? fun j => ?_
  rw [List.getElem?_set, bV_len]
  by_cases e : k = j
  · subst e; rw [if_pos rfl, if_pos h, bV_at _ _ _ h, hb]
  · rw [if_neg e]
    by_cases hj : j < n
    · rw [bV_at _ _ _ hj, bV_at _ _ _ hj, hg j (fun e2 => e e2.symm)]
    · rw [List.getElem?_eq_none (by rw [bV_len]; omega), List.getElem?_eq_none (by rw [bV_len]; omega)]
theorem bV_zero (n : Nat) : bV n (fun _ => false) = List.replicate n (.bool false) := by
  refine List.ext_getElem? fun i => ?_
  by_cases h : i < n
  · rw [bV_at _ _ _ h, List.getElem?_replicate, if_pos h]
  · rw [List.getElem?_eq_none (by rw [bV_len]; omega), List.getElem?_eq_none (by rw [List.length_replicate]; omega)]
/-- The closure that asks whether a place hangs. -/
theorem hclosure_any (f : Nat → Bool) (n B g c : Nat) (x : Nat) (W : World) (hx : x < n) (hl : n ≤ 1000) (hbox : W.cell? ⟨B, 0, none⟩ = some (.slice (some ⟨g, 0, none⟩) n c)) (hrow : ∀ j, j < n → W.cell? ⟨g, j, none⟩ = some (.bool (f j))) :
    Calls Tryz.prog 29 #[.int .i64 x, .pointer (some ⟨B, 0, none⟩)] W fun e w' => e = .returned (.bool (f x)) ∧ ∃ q, w' = W.drewN q := by
  have h1 := hrow x hx
  generalize f x = b at h1
  have hxi : (x : Int) < (n : Int) := by omega
  have hx0 : (0 : Int) ≤ (x : Int) := by omega
  clear hrow
  go_enter Tryz.func29, Tryz.ntmps29
  go_wp2_with fail
  go_ret
  exact ⟨rfl, 0, rfl⟩
def encF2 {n : Nat} (x : Fin n) : Value := .int .i64 (x.val : Int)
/-- slices.ContainsFunc of some places. -/
theorem anyOf_any (f : Nat → Bool) (n B g c : Nat) (L : List Nat) (A : Option Addr) (ci : Nat) (W : World) (hn : 1 ≤ n) (hl : n ≤ 1000) (hL : ∀ j ∈ L, j < n) (hLl : L.length ≤ 1048576) (hr : NtRow W A L) (hBl : B < W.heap.size) (hgl : g < W.heap.size)
    (hbox : W.cell? ⟨B, 0, none⟩ = some (.slice (some ⟨g, 0, none⟩) n c)) (hrow : ∀ j, j < n → W.cell? ⟨g, j, none⟩ = some (.bool (f j))) :
    Calls Tryz.prog 28 #[.slice A L.length ci, .func (.func 29) #[] #[.pointer (some ⟨B, 0, none⟩)]] W fun e w' => e = .returned (.bool (L.any f)) ∧ ∃ q, w' = W.drewN q := by
  haveI : Inhabited (Fin n) := ⟨⟨0, by omega⟩⟩
  rcases Nat.eq_zero_or_pos L.length with h0 | h0
  · obtain rfl : L = [] := List.eq_nil_of_length_eq_zero h0
    exact (Tryz.slices_ContainsFunc_empty (α := Fin n) A ci _ W).mono fun e w' h => ⟨h.1, 0, h.2⟩
  · obtain ⟨g2, rfl, _⟩ := hr 0 h0
    have eg : ∀ args w, (callFunc 29 args).run Tryz.prog w = .ok (.enter 29 args) w := enters_of Tryz.func29 (by kernel_rfl) rfl
    obtain ⟨zs, hzs⟩ : ∃ zs : List (Fin n), zs.map Fin.val = L := ⟨L.pmap (fun j h => ⟨j, h⟩) hL, by rw [List.map_pmap]; simp⟩
    have hzl : zs.length = L.length := by rw [← hzs, List.length_map]
    have hp : PredAt Tryz.prog 29 #[.pointer (some ⟨B, 0, none⟩)] encF2 (fun x : Fin n => f x.val) W := fun V x hV =>
      hclosure_any f n B g c x.val V x.isLt hl ((hV.cell (p := ⟨B, 0, none⟩) hBl).trans hbox) (fun j hj => (hV.cell (p := ⟨g, j, none⟩) hgl).trans (hrow j hj))
    have := Tryz.slices_ContainsFunc encF2 (fun x : Fin n => f x.val) 29 #[.pointer (some ⟨B, 0, none⟩)] eg g2 0 L.length ci zs W hp (by omega) (by omega) (fun j hj => by
      have hj2 : j < L.length := by omega
      obtain ⟨g3, e, hc⟩ := hr j hj2
      injection e with e; injection e with e _ _
      subst e
      rw [Nat.zero_add, hc, getElem!_pos zs j hj]
      unfold encF2
      have : L[j] = (zs[j]).val := by simp only [← hzs, List.getElem_map]
      rw [this])
    refine this.mono fun e w' h => ⟨?_, h.2⟩
    rw [h.1, ← hzl, List.take_length, ← hzs, List.any_map]; rfl
/-- Those that hang, in the order of places. -/
def hangL (ns : List (List Nat)) (p : Nat) (o : List Nat) (n : Nat) : List Nat := (List.range n).filter (hangK ns p o n)
def VH (W0 : World) (FA : Option Addr) (fc n : Nat) (ns : List (List Nat)) : Nat → Value → World → Prop
  | 0, v, _ | 2, v, _ => v = .slice FA n fc
  | 3, v, _ => v = .int .i64 n
  | 1, v, w | 6, v, w => ∃ A c, v = .slice A n c ∧ NsRow w A ns ∧ ∀ g, A = some ⟨g, 0, none⟩ → ∃ cs, w.heap[g]? = some (.cells cs 23 (0, 0))
  | 4, v, w => ∃ g, v = .slice (some ⟨g, 0, none⟩) n n ∧ w.ownsRow W0.heap.size 4 1 v n (bV n fun _ => false)
  | 5, v, w => ∃ B, v = .pointer (some ⟨B, 0, none⟩) ∧ W0.heap.size ≤ B ∧ w.heap[B]? = some (.cells #[.slice none 0 0] 57 (0, 0))
  | _, _, _ => False
theorem VH.mono (W0 : World) (FA : Option Addr) (fc n : Nat) (ns : List (List Nat)) : ∀ i v w w', RowKit.Below w.heap.size w w' → VH W0 FA fc n ns i v w → VH W0 FA fc n ns i v w' := fun i v w w' hb h => by
  match i, h with
  | 0, h | 2, h | 3, h => exact h
  | 1, ⟨A, c, e, hn, ht⟩ | 6, ⟨A, c, e, hn, ht⟩ => exact ⟨A, c, e, hn.below hb, fun g eg => by obtain ⟨cs, h⟩ := ht g eg; exact ⟨cs, (hb.block _ (Array.getElem?_eq_some_iff.1 h).1).trans h⟩⟩
  | 4, ⟨g, e, ho⟩ => exact ⟨g, e, GenL.own_below ho hb⟩
  | 5, ⟨B, e, h1, h2⟩ => exact ⟨B, e, h1, (hb.block _ (Array.getElem?_eq_some_iff.1 h2).1).trans h2⟩
  | i + 7, h => exact h.elim
structure HFin (W0 : World) (n : Nat) (ns : List (List Nat)) (v9 v10 : Value) (w : World) : Prop where
  all : ∃ A c g B, v9 = .slice A n c ∧ v10 = .pointer (some ⟨B, 0, none⟩) ∧ NsRow w A ns ∧ w.ownsRow W0.heap.size 4 1 (.slice (some ⟨g, 0, none⟩) n n) n (bV n fun _ => false) ∧ W0.heap.size ≤ B ∧ w.heap[B]? = some (.cells #[.slice (some ⟨g, 0, none⟩) n n] 57 (0, 0)) ∧ B ≠ g
  below : RowKit.Below W0.heap.size W0 w
/-- Between two rounds: the first k of the order are done. -/
structure HInv (w1 W2 : World) (ns : List (List Nat)) (p n : Nat) (o : List Nat) (A : Option Addr) (g4 B k : Nat) (wr : World) : Prop where
  own : wr.ownsRow w1.heap.size 4 1 (.slice (some ⟨g4, 0, none⟩) n n) n (bV n (hangK ns p o k))
  box : wr.heap[B]? = some (.cells #[.slice (some ⟨g4, 0, none⟩) n n] 57 (0, 0))
  ns : NsRow wr A ns
  below : RowKit.Below w1.heap.size w1 wr
theorem HInv.order {w1 W2 : World} {ns : List (List Nat)} {p n : Nat} {o : List Nat} {A : Option Addr} {g4 B k g : Nat} {wr : World} (h : HInv w1 W2 ns p n o A g4 B k wr) (hc : ∀ (j : Nat) (h : j < o.length), w1.cell? ⟨g, j, none⟩ = some (.int .i64 (o[j] : Int))) (j : Nat) (hj : j < o.length) : wr.cell? ⟨g, j, none⟩ = some (.int .i64 (o[j] : Int)) :=
  (h.below.cell (p := ⟨g, j, none⟩) (World.block_lt_of_cell? w1 _ (hc j hj))).trans (hc j hj)
theorem HInv.cells {w1 W2 : World} {ns : List (List Nat)} {p n : Nat} {o : List Nat} {A : Option Addr} {g4 B k : Nat} {wr : World} (h : HInv w1 W2 ns p n o A g4 B k wr) (hn : 1 ≤ n) : wr.cell? ⟨B, 0, none⟩ = some (.slice (some ⟨g4, 0, none⟩) n n) ∧ B < wr.heap.size ∧ g4 < wr.heap.size ∧ (∀ j, j < n → wr.cell? ⟨g4, j, none⟩ = some (.bool (hangK ns p o k j))) ∧ ∀ j, j < n → ∃ u, wr.cell? ⟨g4, j, none⟩ = some (.bool u) ∧ wr.frozen? ⟨g4, j, none⟩ = false :=
  ⟨by simp [World.cell?, h.box], (Array.getElem?_eq_some_iff.1 h.box).1, (h.own.lt _ rfl).2, fun j hj => by rw [h.own.cellAt j (by omega), bV_at _ _ _ hj], fun j hj => ⟨_, by rw [h.own.cellAt j (by omega), bV_at _ _ _ hj], h.own.frozenAt j⟩⟩
theorem HInv.next {w1 W2 : World} {ns : List (List Nat)} {p n : Nat} {o : List Nat} {A : Option Addr} {g4 B k : Nat} {wr : World} (h : HInv w1 W2 ns p n o A g4 B k wr) (hk : k < o.length) (hx : o[k] < n) (q : Nat) : HInv w1 W2 ns p n o A g4 B (k + 1) ((wr.drewN q).setCell ⟨g4, o[k], none⟩ (.bool (decide (o[k] = p) || (nd ns o[k]).any (hangK ns p o k)))) := by
  have hblk := own_blk h.own
  have hBg : B ≠ g4 := fun e => by
    have := h.box
    rw [e, hblk] at this
    injection this with this
    injection this with _ ht _
    exact absurd ht (by decide)
  have keep : ∀ b, b ≠ g4 → ((wr.drewN q).setCell ⟨g4, o[k], none⟩ (.bool (decide (o[k] = p) || (nd ns o[k]).any (hangK ns p o k)))).heap[b]? = wr.heap[b]? := fun b hb => Below.heap_setCell (wr.drewN q) ⟨g4, o[k], none⟩ _ b hb
  have hcell4 : ∀ j, wr.cell? ⟨g4, j, none⟩ = (bV n (hangK ns p o k))[j]? := fun j => by unfold World.cell?; rw [hblk]; simp
  have hno : ∀ (j : Nat) (u : Value), wr.cell? ⟨g4, j, none⟩ = some u → ∃ b, u = .bool b := fun j u e => by
    rw [hcell4] at e
    by_cases hj : j < n
    · rw [bV_at _ _ _ hj] at e; injection e with e; exact ⟨_, e.symm⟩
    · rw [List.getElem?_eq_none (by rw [bV_len]; omega)] at e; cases e
  refine ⟨?_, (keep B hBg).trans h.box, fun i hi => ?_, ?_⟩
  · have h1 := (World.ownsRow.stored (w := wr.drewN q) h.own o[k] (.bool (decide (o[k] = p) || (nd ns o[k]).any (hangK ns p o k)))).1
    rw [bV_set n (hangK ns p o k) (hangK ns p o (k + 1)) o[k] _ hx (by rw [hangK_at hk, if_pos rfl]) (fun j hj => by rw [hangK_at hk, if_neg (fun e => hj e.symm)])] at h1
    exact h1
  · obtain ⟨g, eg, Ai, ci, hc, hr⟩ := h.ns i hi
    have hg : g ≠ g4 := fun e => by rw [e] at hc; obtain ⟨b, hb⟩ := hno _ _ hc; cases hb
    refine ⟨g, eg, Ai, ci, (World.cell?_of_block (a := ⟨g, i, none⟩) (keep g hg)).trans hc, fun j hj => ?_⟩
    obtain ⟨g2, e2, hc2⟩ := hr j hj
    have hg2 : g2 ≠ g4 := fun e => by rw [e] at hc2; obtain ⟨b, hb⟩ := hno _ _ hc2; cases hb
    exact ⟨g2, e2, (World.cell?_of_block (a := ⟨g2, j, none⟩) (keep g2 hg2)).trans hc2⟩
  · exact (b_drewN h.below q).setCell (p := ⟨g4, o[k], none⟩) (h.own.lt _ rfl).1 _
theorem op_len {P : Program} {w : World} {o : Oper} {ρ : Operand → Value} {x : Operand} {t e : TypeId} {A : Option Addr} {n c : Nat} (ho : o.op = .call { callee := .builtin .len, args := #[x], argTypes := #[t] }) (hu : P.underlying t = some (.slice e)) (hx : ρ x = .slice A n c) : (execOp ρ o).run P w = .ok (.value (.int .i64 n)) w := by
  unfold execOp; rw [ho]; simp [resolve, invoke, builtin, hx, go_sem, Builtin.len_, run_underlying hu]
theorem op_make {P : Program} {w w' : World} {o : Oper} {ρ : Operand → Value} {t : TypeId} {l c : Operand} {p q v : Value} (ho : o.op = .makeSlice t l c) (hl : ρ l = p) (hc : ρ c = q) (h : (Instr.makeSlice t p q).run P w = .ok v w') : (execOp ρ o).run P w = .ok (.value v) w' := by
  unfold execOp; rw [ho]; subst hl; subst hc; simp only [Sem.run_bind, h]; rfl
def HangAt (r : List Int) (ns : List (List Nat)) (p n : Nat) (w : World) (e : Ending) (w' : World) : Prop :=
  ∃ v o, e = .returned (.tuple #[v, .int .i64 0]) ∧ OrdL r n o ∧ w'.ownsRow w.heap.size 3 1 v (hangL ns p o n).length (nV (hangL ns p o n)) ∧ Below w.heap.size w w'
theorem infoBool : (Tryz.prog.info? 4).map (fun i => (i.zero, i.size, i.bytes)) = some (some (.bool false), 1, 1) := by kernel_rfl
set_option maxRecDepth 100000 in
set_option maxHeartbeats 8000000 in
theorem hangs_ok (r : List Int) (fs : List GenL.Fd) (ns : List (List Nat)) (s : ByteArray) (p n : Nat) (FA : Option Addr) (fc : Nat) (w : World) (hn : 1 ≤ n) (hn14 : n ≤ 14) (hp : p < n) (hnl : ns.length = n) (hok : Okn ns)
    (hof : Calls Tryz.prog 9 #[.slice FA n fc] w (OrderAt r n w)) (hfi : ∀ V, Below w.heap.size w V → Calls Tryz.prog 27 #[.slice FA n fc, .string s] V fun e w' => e = .returned (.tuple #[.int .i64 (p : Int), .int .i64 0]) ∧ V = w')
    (hd : ∀ V, Below w.heap.size w V → Calls Tryz.prog 14 #[.slice FA n fc] V (DirOut ns V)) :
    Calls Tryz.prog 10 #[.slice FA n fc, .string s] w (HangAt r ns p n w) := by
  obtain ⟨i0, hi, hz0, hz1, hz2⟩ := info_parts1 infoInt
  obtain ⟨b0, hbi, hbz0, hbz1, hbz2⟩ := info_parts1 infoBool
  have HOf := Lib.hid hof
  have HFi := Lib.hid hfi
  have HD := Lib.hid hd
  have HNl := Lib.hid hnl
  have HOk := Lib.hid hok
  clear hof hfi hd hnl hok
  go_enter Tryz.func10, Tryz.ntmps10
  go_wp2_with fail
  refine HOf.out.mono ?_; rintro e w1 ⟨g, cap, o, rfl, ho, hc, hg, hb1⟩
  have HO := Lib.hid ho
  have HC := Lib.hid hc
  have HB1 := Lib.hid hb1
  clear ho hc hb1
  go_wp2_with (go_at_call 27; refine (HFi.out _ HB1.out).mono ?_; rintro e w2 ⟨rfl, rfl⟩)
  go_cut [9, 10] (fun s9 s10 wx => HFin w1 n ns s9 s10 wx)
  case first =>
    have HM := Lib.hid (VH.mono w1 FA fc n ns)
    have hen1 : ∀ (args : Array Value) (w : World), (callFunc 14 args).run Tryz.prog w = .ok (.enter 14 args) w := fun _ _ => by kernel_rfl
    refine region_fill [(0, 33), (1, 34), (2, 35), (3, 36), (4, 37), (5, 10), (6, 9)] (JM w1 7 (VH w1 FA fc n ns) (fun f w => HFin w1 n ns (f 6) (f 5) w)) (fun f => by simp only [fill, Act.put, List.setIfInBounds_toArray, List.set_cons_zero, List.set_cons_succ]; rfl) (by kernel_rfl) (by kernel_rfl) (by kernel_rfl) (fun f => jm_start (RowKit.Below.refl _ _) f) ?_ ?_
    · intro F hFr
      refine ⟨?_, ?_, ?_, ?_, ?_, ?_, ?_, ?_, trivial⟩
      · as_aux_lemma =>
        intro D f wx hJ hD hdep K9 hK
        obtain ⟨hL, hbw, hv⟩ := jm_live hJ (by decide) hD
        exact stepF_val rfl (op_move rfl (v := .slice FA n fc) (by rw [hFr]; kernel_rfl)) (by rw [hFr, hFr]; kernel_rfl) (hK (updf f 0 (.slice FA n fc)) _ (jm_step HM.out hJ (by decide) hD (b_ref _) rfl))
      · as_aux_lemma =>
        intro D f wx hJ hD hdep K9 hK
        obtain ⟨hL, hbw, hv⟩ := jm_live hJ (by decide) hD
        have e0 : f 0 = .slice FA n fc := hv 0 (by decide) (done hdep 0 (by kernel_rfl))
        refine stepF_callR rfl (op_enter rfl rfl (xs := #[.slice FA n fc]) (by rw [← e0, hFr]; kernel_rfl) hen1) (HD.out wx (b_trans HB1.out hbw)) ?_
        rintro e w5 ⟨A, c, rfl, hns, hb5, hty⟩
        have hk := hK (updf f 1 (.slice A ns.length c)) w5 (jm_step HM.out hJ (by decide) hD hb5 ⟨A, c, by rw [HNl.out], hns, hty⟩)
        refine ⟨_, rfl, ?_⟩
        rw [hFr] at hk ⊢
        exact hk
      · as_aux_lemma =>
        intro D f wx hJ hD hdep K9 hK
        obtain ⟨hL, hbw, hv⟩ := jm_live hJ (by decide) hD
        exact stepF_val rfl (op_move rfl (v := .slice FA n fc) (by rw [hFr]; kernel_rfl)) (by rw [hFr, hFr]; kernel_rfl) (hK (updf f 2 (.slice FA n fc)) _ (jm_step HM.out hJ (by decide) hD (b_ref _) rfl))
      · as_aux_lemma =>
        intro D f wx hJ hD hdep K9 hK
        obtain ⟨hL, hbw, hv⟩ := jm_live hJ (by decide) hD
        have e2 : f 2 = .slice FA n fc := hv 2 (by decide) (done hdep 2 (by kernel_rfl))
        exact stepF_val rfl (op_len rfl Tryz.underlying22 ((show _ = f 2 from by rw [hFr]; kernel_rfl).trans e2)) (by rw [hFr, hFr]; kernel_rfl) (hK (updf f 3 (.int .i64 n)) _ (jm_step HM.out hJ (by decide) hD (b_ref _) rfl))
      · as_aux_lemma =>
        intro D f wx hJ hD hdep K9 hK
        obtain ⟨hL, hbw, hv⟩ := jm_live hJ (by decide) hD
        have e3 : f 3 = .int .i64 n := hv 3 (by decide) (done hdep 3 (by kernel_rfl))
        obtain ⟨w5, hrun, hown, hgrow⟩ := run_make_full (P := Tryz.prog) wx w1.heap.size 57 4 b0 (.bool false) 1 Tryz.underlying57 hbi hbz0 hbz1 .i64 .i64 n (by rw [hbz2]; omega) (by unfold maxLen; omega) hbw.size
        have hmk : (madeCells (Value.bool false).cells (n * 1)).toList = bV n (fun _ => false) := by rw [Nat.mul_one, bV_zero]; exact toList_madeCells_one _ _
        rw [hmk] at hown
        exact stepF_val rfl (op_make rfl ((show _ = f 3 from by rw [hFr]; kernel_rfl).trans e3) ((show _ = f 3 from by rw [hFr]; kernel_rfl).trans e3) hrun) (by rw [hFr, hFr]; kernel_rfl) (hK (updf f 4 (.slice (some ⟨wx.heap.size, 0, none⟩) n n)) _ (jm_step HM.out hJ (by decide) hD ((RowKit.Below.refl _ _).grown hgrow (Nat.le_refl _) (fun k e => by cases e)) ⟨_, rfl, hown⟩))
      · as_aux_lemma =>
        intro D f wx hJ hD hdep K9 hK
        obtain ⟨hL, hbw, hv⟩ := jm_live hJ (by decide) hD
        have hl : (Instr.alloc 57 true (.tuple #[])).run Tryz.prog wx = .ok (.pointer (some ⟨wx.heap.size, 0, none⟩)) (wx.alloc (.cells #[.slice none 0 0] 57)) := by kernel_rfl
        exact stepF_val rfl (op_alloc rfl hl) (by rw [hFr, hFr]; kernel_rfl) (hK (updf f 5 (.pointer (some ⟨wx.heap.size, 0, none⟩))) _ (jm_step HM.out hJ (by decide) hD (b_new _ _) ⟨_, rfl, hbw.size, World.alloc_heap_new _ _⟩))
      · as_aux_lemma =>
        intro D f wx hJ hD hdep K9 hK
        obtain ⟨hL, hbw, hv⟩ := jm_live hJ (by decide) hD
        have v1 := hv 1 (by decide) (done hdep 1 (by kernel_rfl))
        exact stepF_val rfl (op_assign rfl (v := f 1) (by rw [hFr]; kernel_rfl)) (by rw [hFr, hFr]; kernel_rfl) (hK (updf f 6 (f 1)) _ (jm_step HM.out hJ (by decide) hD (b_ref _) v1))
      · as_aux_lemma =>
        intro D f wx hJ hD hdep K9 hK
        obtain ⟨hL, hbw, hv⟩ := jm_live hJ (by decide) hD
        have hall : ∀ j, j < 7 → D j = true := fun j hj => by match j, hj with | 0, _ => exact done hdep 0 (by kernel_rfl) | 1, _ => exact done hdep 1 (by kernel_rfl) | 2, _ => exact done hdep 2 (by kernel_rfl) | 3, _ => exact done hdep 3 (by kernel_rfl) | 4, _ => exact done hdep 4 (by kernel_rfl) | 5, _ => exact done hdep 5 (by kernel_rfl) | 6, _ => exact done hdep 6 (by kernel_rfl)
        obtain ⟨g4, e4, h4⟩ := hv 4 (by decide) (hall 4 (by decide))
        obtain ⟨B, e5, hB, hblk⟩ := hv 5 (by decide) (hall 5 (by decide))
        obtain ⟨A, c, e6, hns, hty⟩ := hv 6 (by decide) (hall 6 (by decide))
        rw [e4] at h4
        have hne : B ≠ g4 := fun e => by
          rcases h4.2 with ⟨h', _⟩ | ⟨g', cap', cur, h', _, hg, _⟩
          · simp at h'
          · simp only [Value.slice.injEq, Option.some.injEq, Addr.mk.injEq, and_true] at h'
            rw [← h'.1, ← e, hblk] at hg
            injection hg with hg
            injection hg with _ ht _
            exact absurd ht (by decide)
        have hl : (Instr.storeAt 57 (.pointer (some ⟨B, 0, none⟩)) (.slice (some ⟨g4, 0, none⟩) n n)).run Tryz.prog wx = .ok () (wx.setCell ⟨B, 0, none⟩ (.slice (some ⟨g4, 0, none⟩) n n)) := by
          have q1 : wx.cell? ⟨B, 0, none⟩ = some (.slice none 0 0) := by simp [World.cell?, hblk]
          have q2 : wx.frozen? ⟨B, 0, none⟩ = false := by simp [World.frozen?, hblk]
          simp [go_sem, q1, q2]
        refine stepF_skip rfl rfl (op_store rfl ((show _ = f 5 from by rw [hFr]; kernel_rfl).trans e5) ((show _ = f 4 from by rw [hFr]; kernel_rfl).trans e4) hl) (hK f _ (jm_last hall ⟨⟨A, c, g4, B, e6, e5, fun i hi => ?_, ?_, hB, ?_, hne⟩, hbw.setCell (p := ⟨B, 0, none⟩) hB _⟩))
        · obtain ⟨g, eg, Ai, ci, hc, hr⟩ := hns i hi
          obtain ⟨cs, hg⟩ := hty g eg
          have hgB : g ≠ B := fun e => by
            rw [e, hblk] at hg
            injection hg with hg
            injection hg with _ ht _
            exact absurd ht (by decide)
          refine ⟨g, eg, Ai, ci, (World.cell?_of_block (a := ⟨g, i, none⟩) (Below.heap_setCell wx ⟨B, 0, none⟩ _ g hgB)).trans hc, fun j hj => ?_⟩
          obtain ⟨g2, e2, hc2⟩ := hr j hj
          have hg2 : g2 ≠ B := fun e => by
            rw [e] at hc2
            unfold World.cell? at hc2
            rw [hblk] at hc2
            rcases Nat.eq_zero_or_pos j with h0 | h0
            · have hc3 : (#[Value.slice none 0 0] : Array Value)[j]? = some (.int .i64 ((nd ns i)[j] : Int)) := hc2
              rw [show (#[Value.slice none 0 0] : Array Value)[j]? = some (.slice none 0 0) from by rw [h0]; rfl] at hc3
              injection hc3 with hc3; cases hc3
            · have hc3 : (#[Value.slice none 0 0] : Array Value)[j]? = some (.int .i64 ((nd ns i)[j] : Int)) := hc2
              rw [Array.getElem?_eq_none (by simp; omega)] at hc3
              cases hc3
          exact ⟨g2, e2, (World.cell?_of_block (a := ⟨g2, j, none⟩) (Below.heap_setCell wx ⟨B, 0, none⟩ _ g2 hg2)).trans hc2⟩
        · exact h4.kept (row := some B) ⟨rfl, rfl, rfl, by simp [World.setCell], fun k _ hk => Below.heap_setCell _ _ _ k (fun e => hk (by rw [e]))⟩ (.inr (fun e => by injection e with e; exact hne e.symm))
        · simp [World.setCell, Array.getElem?_modify, hblk]
    · intro D f wx hJ hall
      have hE := jm_end hJ (hall 7 (by decide))
      have HX := Lib.hid hE
      clear hE hJ hall
      go_wp2_with fail
      go_meet
      exact HX.out
  case rest =>
    obtain ⟨W2, rfl⟩ : ∃ V, V = wc := ⟨_, rfl⟩
    obtain ⟨⟨A, c, g4, B, rfl, rfl, hns, hown, hB, hblk, hne⟩, hbc⟩ := hcut

    have hI0 : HInv w1 W2 ns p n o A g4 B 0 W2 := ⟨hown, hblk, hns, hbc⟩
    have HI0 := Lib.hid hI0
    have hA0 := hns 0 (by rw [HNl.out]; omega)
    obtain ⟨gA, rfl, _⟩ := hA0
    clear hI0 hns hown hblk hbc
    have hol := HO.out.len
    have HOl := Lib.hid hol
    clear hol
    have hen2 : ∀ (args : Array Value) (w : World), (callFunc 28 args).run Tryz.prog w = .ok (.enter 28 args) w := fun _ _ => by kernel_rfl
    go_wp2_with fail
    go_loopw [12, 40] (fun _ ii wr => ∃ k : Nat, ii = .int .i64 k ∧ k ≤ n ∧ HInv w1 W2 ns p n o (some ⟨gA, 0, none⟩) g4 B k wr) (fun _ ii _ => n - (intOf ii).toNat)
    case atStart => exact ⟨0, rfl, by omega, HI0.out⟩
    case round =>
      obtain ⟨k, rfl, hk, hI⟩ := hrel
      by_cases hlt : k < n
      · have hko : k < o.length := by rw [HOl.out]; exact hlt
        have hxn : o[k] < n := List.mem_range.1 (HO.out.perm.mem_iff.1 (List.getElem_mem hko))
        have hoc := hI.order HC.out k hko
        have hnext := hI.next hko hxn
        obtain ⟨x, hx⟩ : ∃ x, o[k] = x := ⟨_, rfl⟩
        rw [hx] at hxn hoc hnext
        obtain ⟨gA2, eA, Ai, ci, hca, hra⟩ := hI.ns x (by rw [HNl.out]; exact hxn)
        obtain rfl : gA = gA2 := by injection eA with eA; injection eA
        have hbx := hI.cells hn
        have hxi : (x : Int) < (n : Int) := by omega
        have hx0 : (0 : Int) ≤ (x : Int) := by omega
        have hLoad : ∀ V : World, (∃ q, V = wr.drewN q) → (Instr.loadAt 57 (.pointer (some ⟨B, 0, none⟩))).run Tryz.prog V = .ok (.slice (some ⟨g4, 0, none⟩) n n) V := fun V ⟨q, e⟩ => by
          have q1 : V.cell? ⟨B, 0, none⟩ = some (.slice (some ⟨g4, 0, none⟩) n n) := by rw [e]; exact hbx.1
          simp [go_sem, q1]
        have hIx : ∀ V : World, (Instr.indexAt 57 (.slice (some ⟨g4, 0, none⟩) n n) (.int .i64 (x : Nat))).run Tryz.prog V = .ok (.pointer (some ⟨g4, x, none⟩)) V := fun V => by simp [go_sem, Tryz.underlying57, hxn]
        have hIxA : ∀ V : World, (Instr.indexAt 36 (.slice (some ⟨gA, 0, none⟩) n c) (.int .i64 (x : Nat))).run Tryz.prog V = .ok (.pointer (some ⟨gA, x, none⟩)) V := fun V => by simp [go_sem, Tryz.underlying36, hxn]
        have hLoadA : ∀ V : World, (∃ q, V = wr.drewN q) → (Instr.loadAt 23 (.pointer (some ⟨gA, x, none⟩))).run Tryz.prog V = .ok (.slice Ai (nd ns x).length ci) V := fun V ⟨q, e⟩ => by
          have q1 : V.cell? ⟨gA, x, none⟩ = some (.slice Ai (nd ns x).length ci) := by rw [e]; exact hca
          simp [go_sem, q1]
        have hany := fun q => anyOf_any (hangK ns p o k) n B g4 n (nd ns x) Ai ci (wr.drewN q) hn (by omega) (by have := (HOk.out.2 x (by rw [HNl.out]; exact hxn)).2; rwa [HNl.out] at this) (HOk.out.2 x (by rw [HNl.out]; exact hxn)).1 hra hbx.2.1 hbx.2.2.1 hbx.1 hbx.2.2.2.1
        have hstc := hbx.2.2.2.2 x hxn
        generalize (nd ns x).any (hangK ns p o k) = av at hany hnext
        have hSt : ∀ (q : Nat) (b : Bool), (Instr.storeAt 4 (.pointer (some ⟨g4, x, none⟩)) (.bool b)).run Tryz.prog (wr.drewN q) = .ok () ((wr.drewN q).setCell ⟨g4, x, none⟩ (.bool b)) := fun q b => by
          obtain ⟨u, q1, q2⟩ := hstc
          have q1' : (wr.drewN q).cell? ⟨g4, x, none⟩ = some (.bool u) := q1
          have q2' : (wr.drewN q).frozen? ⟨g4, x, none⟩ = false := q2
          simp [go_sem, q1', q2']
        have HAny := Lib.hid hany
        have HNxt := Lib.hid hnext
        clear hany hnext hra hbx hca hI hx eA hstc
        by_cases hxp : x = p
        · have hEq : ∀ V : World, (do eqGuard .eql 3 (.tmp 46) (.tmp 47) (.int .i64 (x : Nat)) (.int .i64 (p : Nat)); binOp .eql 3 (.int .i64 (x : Nat)) (.int .i64 (p : Nat)) : Sem Value).run Tryz.prog V = .ok (.bool true) V := fun V => by rw [hxp]; simp [go_sem, eqGuard]
          have hnx : ∀ q, HInv w1 W2 ns p n o (some ⟨gA, 0, none⟩) g4 B (k + 1) ((wr.drewN q).setCell ⟨g4, x, none⟩ (.bool true)) := fun q => by have := HNxt.out q; rwa [decide_eq_true hxp, Bool.true_or] at this
          have HNext := Lib.hid hnx
          have hSt := fun q => hSt q true
          clear hnx hxp
          go_wp2_with fail
          go_upto_region 11 with fail
          refine region_fill [(0, 44), (1, 45), (2, 46), (3, 47), (4, 48), (5, 49), (6, 50), (7, 51), (8, 52), (9, 53), (10, 54), (11, 55), (12, 56), (13, 57)] (JL (fun i => match i with | 0 => .slice (some ⟨g4, 0, none⟩) n n | 1 => .int .i64 (x : Nat) | 2 => .int .i64 (x : Nat) | 3 => .int .i64 (p : Nat) | 4 => .bool true | 5 => .bool true | 6 => undef | 7 => undef | 8 => undef | 9 => undef | 10 => undef | 11 => undef | 12 => .bool true | 13 => .pointer (some ⟨g4, x, none⟩) | 14 => undef | _ => undef) 14 (fun V => ∃ q, V = wr.drewN q) (fun V => ∃ q, V = (wr.drewN q).setCell ⟨g4, x, none⟩ (.bool true))) (fun f => by simp only [fill, Act.put, List.setIfInBounds_toArray, List.set_cons_zero, List.set_cons_succ]; rfl) (by kernel_rfl) (by kernel_rfl) (by kernel_rfl) (fun f => jl_start (⟨1, rfl⟩) f) ?_ ?_
          · intro F hFr
            refine ⟨?_, ?_, ?_, ?_, ?_, ?_, ?_, ?_, ?_, ?_, ?_, ?_, ?_, ?_, ?_, trivial⟩
            · as_aux_lemma =>
              intro D f wx hJ hD hdep K9 hK
              obtain ⟨hDE, hA⟩ := jl_live hJ (by decide) hD
              exact stepF_val rfl (op_load rfl (p := .pointer (some ⟨B, 0, none⟩)) (by rw [hFr]; kernel_rfl) (hLoad wx hA)) (by rw [hFr, hFr]; kernel_rfl) (hK (updf f 0 (.slice (some ⟨g4, 0, none⟩) n n)) _ (jl_pure hJ (by decide) hD rfl))
            · as_aux_lemma =>
              intro D f wx hJ hD hdep K9 hK
              exact stepF_val rfl (op_move rfl (v := .int .i64 (x : Nat)) (by rw [hFr]; kernel_rfl)) (by rw [hFr, hFr]; kernel_rfl) (hK (updf f 1 (.int .i64 (x : Nat))) _ (jl_pure hJ (by decide) hD rfl))
            · as_aux_lemma =>
              intro D f wx hJ hD hdep K9 hK
              exact stepF_val rfl (op_move rfl (v := .int .i64 (x : Nat)) (by rw [hFr]; kernel_rfl)) (by rw [hFr, hFr]; kernel_rfl) (hK (updf f 2 (.int .i64 (x : Nat))) _ (jl_pure hJ (by decide) hD rfl))
            · as_aux_lemma =>
              intro D f wx hJ hD hdep K9 hK
              exact stepF_val rfl (op_move rfl (v := .int .i64 (p : Nat)) (by rw [hFr]; kernel_rfl)) (by rw [hFr, hFr]; kernel_rfl) (hK (updf f 3 (.int .i64 (p : Nat))) _ (jl_pure hJ (by decide) hD rfl))
            · as_aux_lemma =>
              intro D f wx hJ hD hdep K9 hK
              have e2 : f 2 = .int .i64 (x : Nat) := hJ.1 2 (by decide) (done hdep 2 (by kernel_rfl))
              have e3 : f 3 = .int .i64 (p : Nat) := hJ.1 3 (by decide) (done hdep 3 (by kernel_rfl))
              exact stepF_val rfl (op_bin rfl (p := .int .i64 (x : Nat)) (q := .int .i64 (p : Nat)) ((show _ = f 2 from by rw [hFr]; kernel_rfl).trans e2) ((show _ = f 3 from by rw [hFr]; kernel_rfl).trans e3) (hEq wx)) (by rw [hFr, hFr]; kernel_rfl) (hK (updf f 4 (.bool true)) _ (jl_pure hJ (by decide) hD rfl))
            · as_aux_lemma =>
              intro D f wx hJ hD hdep K9 hK
              have e4 : f 4 = .bool true := hJ.1 4 (by decide) (done hdep 4 (by kernel_rfl))
              exact stepF_val rfl (op_move rfl (v := .bool true) ((show _ = f 4 from by rw [hFr]; kernel_rfl).trans e4)) (by rw [hFr, hFr]; kernel_rfl) (hK (updf f 5 (.bool true)) _ (jl_pure hJ (by decide) hD rfl))
            · as_aux_lemma =>
              intro D f wx hJ hD hdep K9 hK
              have e5 : f 5 = .bool true := hJ.1 5 (by decide) (done hdep 5 (by kernel_rfl))
              exact stepF_off (wanted_off rfl (yields_of (show _ = some (f 5) from by rw [hFr]; kernel_rfl) e5) (by decide)) (by rw [hFr, hFr]; kernel_rfl) (hK (updf f 6 (undef)) _ (jl_pure hJ (by decide) hD rfl))
            · as_aux_lemma =>
              intro D f wx hJ hD hdep K9 hK
              have e5 : f 5 = .bool true := hJ.1 5 (by decide) (done hdep 5 (by kernel_rfl))
              exact stepF_off (wanted_off rfl (yields_of (show _ = some (f 5) from by rw [hFr]; kernel_rfl) e5) (by decide)) (by rw [hFr, hFr]; kernel_rfl) (hK (updf f 7 (undef)) _ (jl_pure hJ (by decide) hD rfl))
            · as_aux_lemma =>
              intro D f wx hJ hD hdep K9 hK
              have e5 : f 5 = .bool true := hJ.1 5 (by decide) (done hdep 5 (by kernel_rfl))
              exact stepF_off (wanted_off rfl (yields_of (show _ = some (f 5) from by rw [hFr]; kernel_rfl) e5) (by decide)) (by rw [hFr, hFr]; kernel_rfl) (hK (updf f 8 (undef)) _ (jl_pure hJ (by decide) hD rfl))
            · as_aux_lemma =>
              intro D f wx hJ hD hdep K9 hK
              have e5 : f 5 = .bool true := hJ.1 5 (by decide) (done hdep 5 (by kernel_rfl))
              exact stepF_off (wanted_off rfl (yields_of (show _ = some (f 5) from by rw [hFr]; kernel_rfl) e5) (by decide)) (by rw [hFr, hFr]; kernel_rfl) (hK (updf f 9 (undef)) _ (jl_pure hJ (by decide) hD rfl))
            · as_aux_lemma =>
              intro D f wx hJ hD hdep K9 hK
              have e5 : f 5 = .bool true := hJ.1 5 (by decide) (done hdep 5 (by kernel_rfl))
              exact stepF_off (wanted_off rfl (yields_of (show _ = some (f 5) from by rw [hFr]; kernel_rfl) e5) (by decide)) (by rw [hFr, hFr]; kernel_rfl) (hK (updf f 10 (undef)) _ (jl_pure hJ (by decide) hD rfl))
            · as_aux_lemma =>
              intro D f wx hJ hD hdep K9 hK
              have e5 : f 5 = .bool true := hJ.1 5 (by decide) (done hdep 5 (by kernel_rfl))
              exact stepF_off (wanted_off rfl (yields_of (show _ = some (f 5) from by rw [hFr]; kernel_rfl) e5) (by decide)) (by rw [hFr, hFr]; kernel_rfl) (hK (updf f 11 (undef)) _ (jl_pure hJ (by decide) hD rfl))
            · as_aux_lemma =>
              intro D f wx hJ hD hdep K9 hK
              have e5 : f 5 = .bool true := hJ.1 5 (by decide) (done hdep 5 (by kernel_rfl))
              exact stepF_val rfl (op_pick rfl (b := true) ((show _ = f 5 from by rw [hFr]; kernel_rfl).trans e5) (by first | rfl | (rw [hFr]; kernel_rfl) | rw [hFr])) (by rw [hFr, hFr]; kernel_rfl) (hK (updf f 12 (.bool true)) _ (jl_pure hJ (by decide) hD rfl))
            · as_aux_lemma =>
              intro D f wx hJ hD hdep K9 hK
              have e0 : f 0 = .slice (some ⟨g4, 0, none⟩) n n := hJ.1 0 (by decide) (done hdep 0 (by kernel_rfl))
              have e1 : f 1 = .int .i64 (x : Nat) := hJ.1 1 (by decide) (done hdep 1 (by kernel_rfl))
              exact stepF_val rfl (op_index rfl (p := .slice (some ⟨g4, 0, none⟩) n n) (q := .int .i64 (x : Nat)) ((show _ = f 0 from by rw [hFr]; kernel_rfl).trans e0) ((show _ = f 1 from by rw [hFr]; kernel_rfl).trans e1) (hIx wx)) (by rw [hFr, hFr]; kernel_rfl) (hK (updf f 13 (.pointer (some ⟨g4, x, none⟩))) _ (jl_pure hJ (by decide) hD rfl))
            · as_aux_lemma =>
              intro D f wx hJ hD hdep K9 hK
              have hal : ∀ j, j < 14 → D j = true := fun j hj => by match j, hj with | 0, _ => exact done hdep 0 (by kernel_rfl) | 1, _ => exact done hdep 1 (by kernel_rfl) | 2, _ => exact done hdep 2 (by kernel_rfl) | 3, _ => exact done hdep 3 (by kernel_rfl) | 4, _ => exact done hdep 4 (by kernel_rfl) | 5, _ => exact done hdep 5 (by kernel_rfl) | 6, _ => exact done hdep 6 (by kernel_rfl) | 7, _ => exact done hdep 7 (by kernel_rfl) | 8, _ => exact done hdep 8 (by kernel_rfl) | 9, _ => exact done hdep 9 (by kernel_rfl) | 10, _ => exact done hdep 10 (by kernel_rfl) | 11, _ => exact done hdep 11 (by kernel_rfl) | 12, _ => exact done hdep 12 (by kernel_rfl) | 13, _ => exact done hdep 13 (by kernel_rfl)
              have e13 : f 13 = .pointer (some ⟨g4, x, none⟩) := hJ.1 13 (by decide) (hal 13 (by decide))
              have e12 : f 12 = .bool true := hJ.1 12 (by decide) (hal 12 (by decide))
              have hDE : D 14 = false := hD
              obtain ⟨q, rfl⟩ := hJ.2.1 hDE
              exact stepF_skip rfl rfl (op_store rfl ((show _ = f 13 from by rw [hFr]; kernel_rfl).trans e13) ((show _ = f 12 from by rw [hFr]; kernel_rfl).trans e12) (hSt q)) (hK f _ (jl_last hJ hal ⟨q, rfl⟩))
          · intro D f wx hJ hall
            obtain ⟨q, rfl⟩ := (hJ.2.2 (hall 14 (by decide))).2
            have hN := HNext.out q
            have HN := Lib.hid hN
            clear hN hJ hall
            go_wp2_with fail
            go_roundw
            case rel => exact ⟨k + 1, by go_num, by omega, HN.out⟩
            case measure => simp [intOf]; omega
        · have hEq : ∀ V : World, (do eqGuard .eql 3 (.tmp 46) (.tmp 47) (.int .i64 (x : Nat)) (.int .i64 (p : Nat)); binOp .eql 3 (.int .i64 (x : Nat)) (.int .i64 (p : Nat)) : Sem Value).run Tryz.prog V = .ok (.bool false) V := fun V => by
            have hxp2 : ¬ (x : Int) = (p : Int) := by omega
            simp [go_sem, eqGuard, hxp2]
          have hnx : ∀ q, HInv w1 W2 ns p n o (some ⟨gA, 0, none⟩) g4 B (k + 1) ((wr.drewN q).setCell ⟨g4, x, none⟩ (.bool av)) := fun q => by have := HNxt.out q; rwa [decide_eq_false hxp, Bool.false_or] at this
          have HNext := Lib.hid hnx
          have hSt := fun q => hSt q av
          have hMf : ∀ V : World, (Instr.makeFunc (.func 29) #[] #[.pointer (some ⟨B, 0, none⟩)]).run Tryz.prog V = .ok (.func (.func 29) #[] #[.pointer (some ⟨B, 0, none⟩)]) V := fun V => by kernel_rfl
          clear hnx
          go_wp2_with fail
          go_upto_region 11 with fail
          refine region_fill [(0, 44), (1, 45), (2, 46), (3, 47), (4, 48), (5, 49), (6, 50), (7, 51), (8, 52), (9, 53), (10, 54), (11, 55), (12, 56), (13, 57)] (JL (fun i => match i with | 0 => .slice (some ⟨g4, 0, none⟩) n n | 1 => .int .i64 (x : Nat) | 2 => .int .i64 (x : Nat) | 3 => .int .i64 (p : Nat) | 4 => .bool false | 5 => .bool false | 6 => .slice (some ⟨gA, 0, none⟩) n c | 7 => .int .i64 (x : Nat) | 8 => .pointer (some ⟨gA, x, none⟩) | 9 => .slice Ai (nd ns x).length ci | 10 => .func (.func 29) #[] #[.pointer (some ⟨B, 0, none⟩)] | 11 => .bool av | 12 => .bool av | 13 => .pointer (some ⟨g4, x, none⟩) | 14 => undef | _ => undef) 14 (fun V => ∃ q, V = wr.drewN q) (fun V => ∃ q, V = (wr.drewN q).setCell ⟨g4, x, none⟩ (.bool av))) (fun f => by simp only [fill, Act.put, List.setIfInBounds_toArray, List.set_cons_zero, List.set_cons_succ]; rfl) (by kernel_rfl) (by kernel_rfl) (by kernel_rfl) (fun f => jl_start (⟨1, rfl⟩) f) ?_ ?_
          · intro F hFr
            refine ⟨?_, ?_, ?_, ?_, ?_, ?_, ?_, ?_, ?_, ?_, ?_, ?_, ?_, ?_, ?_, trivial⟩
            · as_aux_lemma =>
              intro D f wx hJ hD hdep K9 hK
              obtain ⟨hDE, hA⟩ := jl_live hJ (by decide) hD
              exact stepF_val rfl (op_load rfl (p := .pointer (some ⟨B, 0, none⟩)) (by rw [hFr]; kernel_rfl) (hLoad wx hA)) (by rw [hFr, hFr]; kernel_rfl) (hK (updf f 0 (.slice (some ⟨g4, 0, none⟩) n n)) _ (jl_pure hJ (by decide) hD rfl))
            · as_aux_lemma =>
              intro D f wx hJ hD hdep K9 hK
              exact stepF_val rfl (op_move rfl (v := .int .i64 (x : Nat)) (by rw [hFr]; kernel_rfl)) (by rw [hFr, hFr]; kernel_rfl) (hK (updf f 1 (.int .i64 (x : Nat))) _ (jl_pure hJ (by decide) hD rfl))
            · as_aux_lemma =>
              intro D f wx hJ hD hdep K9 hK
              exact stepF_val rfl (op_move rfl (v := .int .i64 (x : Nat)) (by rw [hFr]; kernel_rfl)) (by rw [hFr, hFr]; kernel_rfl) (hK (updf f 2 (.int .i64 (x : Nat))) _ (jl_pure hJ (by decide) hD rfl))
            · as_aux_lemma =>
              intro D f wx hJ hD hdep K9 hK
              exact stepF_val rfl (op_move rfl (v := .int .i64 (p : Nat)) (by rw [hFr]; kernel_rfl)) (by rw [hFr, hFr]; kernel_rfl) (hK (updf f 3 (.int .i64 (p : Nat))) _ (jl_pure hJ (by decide) hD rfl))
            · as_aux_lemma =>
              intro D f wx hJ hD hdep K9 hK
              have e2 : f 2 = .int .i64 (x : Nat) := hJ.1 2 (by decide) (done hdep 2 (by kernel_rfl))
              have e3 : f 3 = .int .i64 (p : Nat) := hJ.1 3 (by decide) (done hdep 3 (by kernel_rfl))
              exact stepF_val rfl (op_bin rfl (p := .int .i64 (x : Nat)) (q := .int .i64 (p : Nat)) ((show _ = f 2 from by rw [hFr]; kernel_rfl).trans e2) ((show _ = f 3 from by rw [hFr]; kernel_rfl).trans e3) (hEq wx)) (by rw [hFr, hFr]; kernel_rfl) (hK (updf f 4 (.bool false)) _ (jl_pure hJ (by decide) hD rfl))
            · as_aux_lemma =>
              intro D f wx hJ hD hdep K9 hK
              have e4 : f 4 = .bool false := hJ.1 4 (by decide) (done hdep 4 (by kernel_rfl))
              exact stepF_val rfl (op_move rfl (v := .bool false) ((show _ = f 4 from by rw [hFr]; kernel_rfl).trans e4)) (by rw [hFr, hFr]; kernel_rfl) (hK (updf f 5 (.bool false)) _ (jl_pure hJ (by decide) hD rfl))
            · as_aux_lemma =>
              intro D f wx hJ hD hdep K9 hK
              have e5 : f 5 = .bool false := hJ.1 5 (by decide) (done hdep 5 (by kernel_rfl))
              exact stepF_valW (wanted_on rfl (yields_of (show _ = some (f 5) from by rw [hFr]; kernel_rfl) e5)) (op_move rfl (v := .slice (some ⟨gA, 0, none⟩) n c) (by rw [hFr]; kernel_rfl)) (by rw [hFr, hFr]; kernel_rfl) (hK (updf f 6 (.slice (some ⟨gA, 0, none⟩) n c)) _ (jl_pure hJ (by decide) hD rfl))
            · as_aux_lemma =>
              intro D f wx hJ hD hdep K9 hK
              have e5 : f 5 = .bool false := hJ.1 5 (by decide) (done hdep 5 (by kernel_rfl))
              exact stepF_valW (wanted_on rfl (yields_of (show _ = some (f 5) from by rw [hFr]; kernel_rfl) e5)) (op_move rfl (v := .int .i64 (x : Nat)) (by rw [hFr]; kernel_rfl)) (by rw [hFr, hFr]; kernel_rfl) (hK (updf f 7 (.int .i64 (x : Nat))) _ (jl_pure hJ (by decide) hD rfl))
            · as_aux_lemma =>
              intro D f wx hJ hD hdep K9 hK
              have e5 : f 5 = .bool false := hJ.1 5 (by decide) (done hdep 5 (by kernel_rfl))
              have e6 : f 6 = .slice (some ⟨gA, 0, none⟩) n c := hJ.1 6 (by decide) (done hdep 6 (by kernel_rfl))
              have e7 : f 7 = .int .i64 (x : Nat) := hJ.1 7 (by decide) (done hdep 7 (by kernel_rfl))
              exact stepF_valW (wanted_on rfl (yields_of (show _ = some (f 5) from by rw [hFr]; kernel_rfl) e5)) (op_index rfl (p := .slice (some ⟨gA, 0, none⟩) n c) (q := .int .i64 (x : Nat)) ((show _ = f 6 from by rw [hFr]; kernel_rfl).trans e6) ((show _ = f 7 from by rw [hFr]; kernel_rfl).trans e7) (hIxA wx)) (by rw [hFr, hFr]; kernel_rfl) (hK (updf f 8 (.pointer (some ⟨gA, x, none⟩))) _ (jl_pure hJ (by decide) hD rfl))
            · as_aux_lemma =>
              intro D f wx hJ hD hdep K9 hK
              have e5 : f 5 = .bool false := hJ.1 5 (by decide) (done hdep 5 (by kernel_rfl))
              have e8 : f 8 = .pointer (some ⟨gA, x, none⟩) := hJ.1 8 (by decide) (done hdep 8 (by kernel_rfl))
              obtain ⟨hDE, hA⟩ := jl_live hJ (by decide) hD
              exact stepF_valW (wanted_on rfl (yields_of (show _ = some (f 5) from by rw [hFr]; kernel_rfl) e5)) (op_load rfl (p := .pointer (some ⟨gA, x, none⟩)) ((show _ = f 8 from by rw [hFr]; kernel_rfl).trans e8) (hLoadA wx hA)) (by rw [hFr, hFr]; kernel_rfl) (hK (updf f 9 (.slice Ai (nd ns x).length ci)) _ (jl_pure hJ (by decide) hD rfl))
            · as_aux_lemma =>
              intro D f wx hJ hD hdep K9 hK
              have e5 : f 5 = .bool false := hJ.1 5 (by decide) (done hdep 5 (by kernel_rfl))
              exact stepF_valW (wanted_on rfl (yields_of (show _ = some (f 5) from by rw [hFr]; kernel_rfl) e5)) (op_makeFunc rfl (fs' := #[]) (cs' := #[.pointer (some ⟨B, 0, none⟩)]) (by rw [hFr]; kernel_rfl) (by rw [hFr]; kernel_rfl) (hMf wx)) (by rw [hFr, hFr]; kernel_rfl) (hK (updf f 10 (.func (.func 29) #[] #[.pointer (some ⟨B, 0, none⟩)])) _ (jl_pure hJ (by decide) hD rfl))
            · as_aux_lemma =>
              intro D f wx hJ hD hdep K9 hK
              have e5 : f 5 = .bool false := hJ.1 5 (by decide) (done hdep 5 (by kernel_rfl))
              have e9 : f 9 = .slice Ai (nd ns x).length ci := hJ.1 9 (by decide) (done hdep 9 (by kernel_rfl))
              have e10 : f 10 = .func (.func 29) #[] #[.pointer (some ⟨B, 0, none⟩)] := hJ.1 10 (by decide) (done hdep 10 (by kernel_rfl))
              obtain ⟨hDE, q, rfl⟩ := jl_live hJ (by decide) hD
              refine stepF_callW (wanted_on rfl (yields_of (show _ = some (f 5) from by rw [hFr]; kernel_rfl) e5)) (op_enter rfl rfl (xs := #[.slice Ai (nd ns x).length ci, .func (.func 29) #[] #[.pointer (some ⟨B, 0, none⟩)]]) (by rw [← e9, ← e10, hFr]; kernel_rfl) hen2) (HAny.out q) ?_
              rintro e w5 ⟨rfl, q2, rfl⟩
              have hk := hK (updf f 11 (.bool av)) ((wr.drewN q).drewN q2) (jl_step hJ (by decide) hD rfl ⟨q + q2, World.drewN_drewN _ _ _⟩)
              refine ⟨_, rfl, ?_⟩
              rw [hFr] at hk ⊢
              exact hk
            · as_aux_lemma =>
              intro D f wx hJ hD hdep K9 hK
              have e5 : f 5 = .bool false := hJ.1 5 (by decide) (done hdep 5 (by kernel_rfl))
              have e11 : f 11 = .bool av := hJ.1 11 (by decide) (done hdep 11 (by kernel_rfl))
              exact stepF_val rfl (op_pick rfl (b := false) ((show _ = f 5 from by rw [hFr]; kernel_rfl).trans e5) ((show _ = f 11 from by rw [hFr]; kernel_rfl).trans e11)) (by rw [hFr, hFr]; kernel_rfl) (hK (updf f 12 (.bool av)) _ (jl_pure hJ (by decide) hD rfl))
            · as_aux_lemma =>
              intro D f wx hJ hD hdep K9 hK
              have e0 : f 0 = .slice (some ⟨g4, 0, none⟩) n n := hJ.1 0 (by decide) (done hdep 0 (by kernel_rfl))
              have e1 : f 1 = .int .i64 (x : Nat) := hJ.1 1 (by decide) (done hdep 1 (by kernel_rfl))
              exact stepF_val rfl (op_index rfl (p := .slice (some ⟨g4, 0, none⟩) n n) (q := .int .i64 (x : Nat)) ((show _ = f 0 from by rw [hFr]; kernel_rfl).trans e0) ((show _ = f 1 from by rw [hFr]; kernel_rfl).trans e1) (hIx wx)) (by rw [hFr, hFr]; kernel_rfl) (hK (updf f 13 (.pointer (some ⟨g4, x, none⟩))) _ (jl_pure hJ (by decide) hD rfl))
            · as_aux_lemma =>
              intro D f wx hJ hD hdep K9 hK
              have hal : ∀ j, j < 14 → D j = true := fun j hj => by match j, hj with | 0, _ => exact done hdep 0 (by kernel_rfl) | 1, _ => exact done hdep 1 (by kernel_rfl) | 2, _ => exact done hdep 2 (by kernel_rfl) | 3, _ => exact done hdep 3 (by kernel_rfl) | 4, _ => exact done hdep 4 (by kernel_rfl) | 5, _ => exact done hdep 5 (by kernel_rfl) | 6, _ => exact done hdep 6 (by kernel_rfl) | 7, _ => exact done hdep 7 (by kernel_rfl) | 8, _ => exact done hdep 8 (by kernel_rfl) | 9, _ => exact done hdep 9 (by kernel_rfl) | 10, _ => exact done hdep 10 (by kernel_rfl) | 11, _ => exact done hdep 11 (by kernel_rfl) | 12, _ => exact done hdep 12 (by kernel_rfl) | 13, _ => exact done hdep 13 (by kernel_rfl)
              have e13 : f 13 = .pointer (some ⟨g4, x, none⟩) := hJ.1 13 (by decide) (hal 13 (by decide))
              have e12 : f 12 = .bool av := hJ.1 12 (by decide) (hal 12 (by decide))
              have hDE : D 14 = false := hD
              obtain ⟨q, rfl⟩ := hJ.2.1 hDE
              exact stepF_skip rfl rfl (op_store rfl ((show _ = f 13 from by rw [hFr]; kernel_rfl).trans e13) ((show _ = f 12 from by rw [hFr]; kernel_rfl).trans e12) (hSt q)) (hK f _ (jl_last hJ hal ⟨q, rfl⟩))
          · intro D f wx hJ hall
            obtain ⟨q, rfl⟩ := (hJ.2.2 (hall 14 (by decide))).2
            have hN := HNext.out q
            have HN := Lib.hid hN
            clear hN hJ hall
            go_wp2_with fail
            go_roundw
            case rel => exact ⟨k + 1, by go_num, by omega, HN.out⟩
            case measure => simp [intOf]; omega
      · obtain rfl : k = n := by omega
        obtain ⟨Wp, rfl⟩ : ∃ V, V = wr := ⟨_, rfl⟩
        have hcells := hI.cells hn
        have hbl := hI.below
        have hbv : ∀ V : World, RowKit.Below Wp.heap.size Wp V → ∀ j, j < k → V.cell? ⟨g4, j, none⟩ = some (.bool (hangK ns p o k j)) := fun V hV j hj => (hV.cell (p := ⟨g4, j, none⟩) hcells.2.2.1).trans (hcells.2.2.2.1 j hj)
        have hbx := hcells.1
        have HBv := Lib.hid hbv
        have HBl := Lib.hid (b_trans HB1.out hbl)
        clear hbv hbl hI hcells
        go_wp2_with fail
        go_loopw [13, 14, 15, 61] (fun v13 _ _ ii wr => ∃ (j : Nat) (v : Value), v = v13 ∧ ii = .int .i64 j ∧ j ≤ k ∧ wr.ownsRow Wp.heap.size 3 1 v ((List.range j).filter (hangK ns p o k)).length (nV ((List.range j).filter (hangK ns p o k))) ∧ RowKit.Below Wp.heap.size Wp wr) (fun _ _ _ ii _ => k - (intOf ii).toNat)
        case atStart => exact ⟨0, _, rfl, rfl, by omega, World.ownsRow_nil _ _ _ _, RowKit.Below.refl _ _⟩
        case round =>
          obtain ⟨j, v, rfl, rfl, hj, hown, hb⟩ := hrel
          by_cases hlt : j < k
          · have hc := HBv.out wr hb j hlt
            have hrs : (List.range (j + 1)).filter (hangK ns p o k) = (List.range j).filter (hangK ns p o k) ++ (if hangK ns p o k j = true then [j] else []) := by
              rw [List.range_succ, List.filter_append]
              by_cases h : hangK ns p o k j = true
              · rw [if_pos h, List.filter_cons_of_pos h]; rfl
              · rw [if_neg h, List.filter_cons_of_neg h]; rfl
            have hji : (j : Int) < (k : Int) := by omega
            have hfl : ((List.range j).filter (hangK ns p o k)).length ≤ 14 := by
              have := List.length_filter_le (hangK ns p o k) (List.range j)
              rw [List.length_range] at this; omega
            generalize (List.range j).filter (hangK ns p o k) = M at hown hrs hfl
            cases hh : hangK ns p o k j with
            | false =>
              rw [hh] at hc hrs
              rw [if_neg (by decide), List.append_nil] at hrs
              have HS := Lib.hid (And.intro hrs (And.intro hown hb))
              clear hrs hown hb hh
              go_wp2_with fail
              go_roundw
              case rel => exact ⟨j + 1, _, rfl, by go_num, by omega, by rw [HS.out.1]; exact HS.out.2.1, HS.out.2.2⟩
              case measure => simp [intOf]; omega
            | true =>
              rw [hh] at hc hrs
              rw [if_pos rfl] at hrs
              have hnx : ∀ (gg cap : Nat) (w8 : World), w8.ownsRow Wp.heap.size 3 1 (.slice (some ⟨gg, 0, none⟩) (M.length + 1) cap) (M.length + 1) (nV M ++ [.int .i64 (j : Int)]) → (wr.alloc (.cells #[.int .i64 (j : Int)] 3)).grownBy w8 v.ownBlock → w8.ownsRow Wp.heap.size 3 1 (.slice (some ⟨gg, 0, none⟩) (M.length + 1) cap) ((List.range (j + 1)).filter (hangK ns p o k)).length (nV ((List.range (j + 1)).filter (hangK ns p o k))) ∧ RowKit.Below Wp.heap.size Wp w8 := fun gg cap w8 h1 h2 => by
                rw [hrs, List.length_append, nV_snoc]
                exact ⟨h1, (b_more hb _).grown h2 (by simp; have := hb.size; omega) (fun q e => (hown.lt q e).1)⟩
              have HNx := Lib.hid hnx
              have HOw := Lib.hid hown
              have hsz := hb.size
              clear hnx hown hb hrs hh
              go_wp2_with (at_builtin; refine wpList_append_lies _ rfl _ _ 23 rfl Wp.heap.size 3 i0 _ 1 8 Tryz.underlying23 hi hz0 hz1 hz2 rfl (by decide) v M.length (nV M) rfl (HOw.out.alloc _) ⟨wr.heap.size, 0, none⟩ 1 1 [.int .i64 (j : Int)] rfl rfl (World.news_of_block (cs := #[.int .i64 (j : Int)]) (t := 3) (fr := (0, 0)) (World.alloc_heap_new wr _)) (by simp [Value.oneCell']) (by decide) (by unfold maxLen; omega) (by omega) (by simp; omega) (wr.heap.size + 1) (by simp) ?_; intro gg cap w8 hown8 hgrow8 hat8 hlt8; have hN := HNx.out gg cap w8 hown8 hgrow8; have HN := Lib.hid hN; clear hN hown8 hgrow8 hat8 hlt8)
              go_roundw
              case rel => exact ⟨j + 1, _, rfl, by go_num, by omega, HN.out.1, HN.out.2⟩
              case measure => simp [intOf]; omega
          · obtain rfl : j = k := by omega
            have hs := HBl.out.size
            have hF := And.intro (show wr.ownsRow w.heap.size 3 1 v (hangL ns p o j).length (nV (hangL ns p o j)) from ⟨hown.1, hown.2.imp id fun ⟨g, cap, cur, a, b, c⟩ => ⟨g, cap, cur, a, Nat.le_trans hs b, c⟩⟩) (b_trans HBl.out hb)
            have HF := Lib.hid hF
            clear hF hown hb
            go_wp2_with fail
            go_ret2
            exact ⟨v, o, rfl, HO.out, HF.out.1, HF.out.2⟩
end Go.Proofs.YthgcmficmodhiaaGreatDoor.RkH
namespace Go.Proofs.YthgcmficmodhiaaGreatDoor.RkG
open Go.RowKit
open Kit RkM RkA RkB RkC RkD RkO RkT RkP RkF RkH
set_option linter.unusedVariables false

theorem any_on {l : List Nat} {f g : Nat → Bool} (h : ∀ x ∈ l, f x = g x) : l.any f = l.any g := by
  induction l with
  | nil => rfl
  | cons a l ih => simp only [List.any_cons]; rw [h a (by simp), ih fun x hx => h x (by simp [hx])]
theorem hangK_skip {ns : List (List Nat)} {p : Nat} {o : List Nat} {r : List Int} {n : Nat} (h : OrdL r n o) (k j : Nat) (hk : k < o.length) (hj : o[k] = j) : ∀ m, k + 1 + m ≤ o.length → hangK ns p o (k + 1 + m) j = hangK ns p o (k + 1) j
  | 0, _ => rfl
  | m + 1, hm => by
    have h1 : k + 1 + m < o.length := by omega
    show hangK ns p o (k + 1 + m + 1) j = _
    rw [hangK_at h1, if_neg, hangK_skip h k j hk hj m (by omega)]
    intro e
    have := ordL_inj h (k + 1 + m) k h1 hk (e.trans hj.symm)
    omega
/-- A field hangs on a place if it is that, or if one that it needs does. -/
theorem hang_eq {ns : List (List Nat)} {p : Nat} {o : List Nat} {r : List Int} {n : Nat} (h : OrdL r n o) (hr : ∀ j, j < n → ∀ i ∈ nd ns j, i < n ∧ rk r i < rk r j) (j : Nat) (hj : j < n) : hangK ns p o n j = (decide (j = p) || (nd ns j).any (hangK ns p o n)) := by
  have hl := h.len
  obtain ⟨k, hk, e⟩ := List.getElem_of_mem (h.perm.mem_iff.2 (List.mem_range.2 hj))
  have h1 := hangK_skip (ns := ns) (p := p) h k j hk e (n - (k + 1)) (by omega)
  rw [show k + 1 + (n - (k + 1)) = n by omega, hangK_at hk, if_pos e] at h1
  rw [h1]
  congr 1
  refine any_on fun i hi => ?_
  obtain ⟨hin, hir⟩ := hr j hj i hi
  -- i stands ahead of j
  have ha := ordL_ahead h k hk i hin (by rw [e]; exact hir)
  obtain ⟨m, hm, e2⟩ := List.getElem_of_mem ha
  rw [List.length_take] at hm
  rw [List.getElem_take] at e2
  have h2 := hangK_skip (ns := ns) (p := p) h m i (by omega) e2 (k - (m + 1)) (by omega)
  have h3 := hangK_skip (ns := ns) (p := p) h m i (by omega) e2 (n - (m + 1)) (by omega)
  rw [show m + 1 + (k - (m + 1)) = k by omega] at h2
  rw [show m + 1 + (n - (m + 1)) = n by omega] at h3
  rw [h2, h3]
/-- What hangs on what hangs on it hangs on it. -/
theorem hang_trans {ns : List (List Nat)} {r : List Int} {n a b : Nat} {H1 H2 : Nat → Bool} (h1 : ∀ j, j < n → H1 j = (decide (j = a) || (nd ns j).any H1)) (h2 : ∀ j, j < n → H2 j = (decide (j = b) || (nd ns j).any H2)) (hr : ∀ j, j < n → ∀ i ∈ nd ns j, i < n ∧ rk r i < rk r j) (h0 : ∀ j, j < n → 0 ≤ rk r j) (hab : H1 b = true) : ∀ (m j : Nat), j < n → (rk r j).toNat ≤ m → H2 j = true → H1 j = true
  | m, j, hj, hm, h => by
    rw [h2 j hj, Bool.or_eq_true] at h
    rcases h with h | h
    · have := of_decide_eq_true h
      subst this; exact hab
    · obtain ⟨i, hi, hi2⟩ := List.any_eq_true.1 h
      obtain ⟨i1, i2⟩ := hr j hj i hi
      have i0 := h0 i i1
      have hIH := hang_trans h1 h2 hr h0 hab (m - 1) i i1 (by omega) hi2
      rw [h1 j hj, Bool.or_eq_true]
      exact .inr (List.any_eq_true.2 ⟨i, hi, hIH⟩)
termination_by m j => (rk r j).toNat
decreasing_by omega
theorem mem_hangL (ns : List (List Nat)) (p : Nat) (o : List Nat) (n j : Nat) : j ∈ hangL ns p o n ↔ j < n ∧ hangK ns p o n j = true := by
  unfold hangL; rw [List.mem_filter, List.mem_range]
theorem hangL_len (ns : List (List Nat)) (p : Nat) (o : List Nat) (n : Nat) : (hangL ns p o n).length ≤ n := by
  have := List.length_filter_le (hangK ns p o n) (List.range n)
  rw [List.length_range] at this; exact this
end Go.Proofs.YthgcmficmodhiaaGreatDoor.RkG
