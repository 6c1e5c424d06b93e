/- expr.parsed: what is thrown is caught. -/
import Derived.Test.YtjjchbafobcofaaGreatDoorPsTop
import Derived.Test.YtjjchbafobcofaaGreatDoorPsTot
import Derived.Tactics
import Derived.Tactics2
import Derived.Defers
import Derived.Recover
import Derived.Laws.Pointers
namespace Go.Proofs.YtjjchbafobcofaaGreatDoor.PsD
open Go.RowKit
open LexM ExM Kit ExL ExP PsM PsT NmC Ps PsR PsL PsA PsF PsT2
set_option linter.unusedVariables false

theorem as_tok (v : Value) (w : World) : (Instr.typeAssert (.iface 46 v) 20 46 true).run Tryz.prog w = .ok (.tuple #[v, .bool true]) w := by kernel_rfl
theorem as_tok_no (v : Value) (w : World) : (Instr.typeAssert (.iface 48 v) 20 46 true).run Tryz.prog w = .ok (.tuple #[.agg #[.int .i64 0, .int .i64 0, .string ⟨#[]⟩, .int .i64 0, .int .i64 0, .string ⟨#[]⟩], .bool false]) w := by kernel_rfl
theorem as_end (v : Value) (w : World) : (Instr.typeAssert (.iface 48 v) 20 48 true).run Tryz.prog w = .ok (.tuple #[v, .bool true]) w := by kernel_rfl

set_option maxHeartbeats 2000000 in
theorem catch_idle (p q r : Addr) (w : World) :
    CallsD Tryz.prog 15 #[.pointer (some p), .pointer (some q), .pointer (some r)] .returning w fun e u' w' => e = .returned (.tuple #[]) ∧ u' = .returning ∧ w' = w := by
  refine callsD_of_wpS Tryz.func15 rfl fun c₀ cs hu => ?_
  simp only [Tryz.ntmps15, List.size_toArray, List.length_cons, List.length_nil, Nat.reduceAdd, Nat.reduceSub, Array.replicate_succ, Array.replicate_zero, List.push_toArray, List.append_toArray, List.nil_append, List.cons_append]
  apply wpS_seq
  apply wpS_region
  simp [wpOpsS, go_sem, recoverD, hu, Exit.thenS]
  refine wpS_of_wp ?_
  go_wp2_with fail
  refine ⟨rfl, .returning, ?_, _, by simp [results, Tryz.results15], rfl, rfl, rfl⟩
  cases c₀; simp_all

set_option maxRecDepth 100000 in
set_option maxHeartbeats 4000000 in
theorem catch_tok (bp bq br : Nat) (kd p vk nn a0 e0 : Int) (u t : ByteArray) (w : World) (h1 : w.cell? ⟨bp, 0, none⟩ = some (.int .i64 a0)) (h2 : w.frozen? ⟨bp, 0, none⟩ = false) (h3 : w.cell? ⟨bq, 0, none⟩ = some (.int .i64 e0)) (h4 : w.frozen? ⟨bq, 0, none⟩ = false) (hne : bp ≠ bq) (l1 : bp < w.heap.size) (l2 : bq < w.heap.size) :
    CallsD Tryz.prog 15 #[.pointer (some ⟨bp, 0, none⟩), .pointer (some ⟨bq, 0, none⟩), .pointer (some ⟨br, 0, none⟩)] (.panicking [{ v := .iface 46 (.agg #[.int .i64 kd, .int .i64 p, .string u, .int .i64 vk, .int .i64 nn, .string t]), recovered := false }]) w fun e u' w' => e = .returned (.tuple #[]) ∧ u' = .panicking [{ v := .iface 46 (.agg #[.int .i64 kd, .int .i64 p, .string u, .int .i64 vk, .int .i64 nn, .string t]), recovered := true }] ∧
      ∃ o, w' = ((w.setCell ⟨bp, 0, none⟩ (.int .i64 p)).setCell ⟨bq, 0, none⟩ (.int .i64 3)).alloc o := by
  refine callsD_of_wpS Tryz.func15 rfl fun c₀ cs hu => ?_
  simp only [Tryz.ntmps15, List.size_toArray, List.length_cons, List.length_nil, Nat.reduceAdd, Nat.reduceSub, Array.replicate_succ, Array.replicate_zero, List.push_toArray, List.append_toArray, List.nil_append, List.cons_append]
  apply wpS_seq
  apply wpS_region
  simp [wpOpsS, go_sem, recoverD, hu, Exit.thenS]
  refine wpS_of_wp ?_
  have a1 := as_tok (.agg #[.int .i64 kd, .int .i64 p, .string u, .int .i64 vk, .int .i64 nn, .string t]) w
  go_wp2_with fail
  exact ⟨rfl, _, rfl, _, by simp [results, Tryz.results15], rfl, rfl, _, rfl⟩

set_option maxRecDepth 100000 in
set_option maxHeartbeats 4000000 in
theorem catch_end (bp bq br : Nat) (a0 e0 ln : Int) (w : World) (h1 : w.cell? ⟨bp, 0, none⟩ = some (.int .i64 a0)) (h2 : w.frozen? ⟨bp, 0, none⟩ = false) (h3 : w.cell? ⟨bq, 0, none⟩ = some (.int .i64 e0)) (h4 : w.frozen? ⟨bq, 0, none⟩ = false) (h5 : w.cell? ⟨br, 0, none⟩ = some (.int .i64 ln)) (hne : bp ≠ bq) (l1 : bp < w.heap.size) (l2 : bq < w.heap.size) (l3 : br < w.heap.size) :
    CallsD Tryz.prog 15 #[.pointer (some ⟨bp, 0, none⟩), .pointer (some ⟨bq, 0, none⟩), .pointer (some ⟨br, 0, none⟩)] (.panicking [{ v := .iface 48 (.agg #[]), recovered := false }]) w fun e u' w' => e = .returned (.tuple #[]) ∧ u' = .panicking [{ v := .iface 48 (.agg #[]), recovered := true }] ∧
      ∃ o, w' = ((w.setCell ⟨bp, 0, none⟩ (.int .i64 ln)).setCell ⟨bq, 0, none⟩ (.int .i64 3)).alloc o := by
  refine callsD_of_wpS Tryz.func15 rfl fun c₀ cs hu => ?_
  simp only [Tryz.ntmps15, List.size_toArray, List.length_cons, List.length_nil, Nat.reduceAdd, Nat.reduceSub, Array.replicate_succ, Array.replicate_zero, List.push_toArray, List.append_toArray, List.nil_append, List.cons_append]
  apply wpS_seq
  apply wpS_region
  simp [wpOpsS, go_sem, recoverD, hu, Exit.thenS]
  refine wpS_of_wp ?_
  have a1 := as_tok_no (.agg #[]) w
  have a2 := as_end (.agg #[]) w
  go_wp2_with fail
  exact ⟨rfl, _, rfl, _, by simp [results, Tryz.results15], rfl, rfl, _, rfl⟩

theorem box5 (w : World) (o0 o1 o2 o3 o4 : Obj) : (((((w.alloc o0).alloc o1).alloc o2).alloc o3).alloc o4).heap[w.heap.size]? = some o0 ∧ (((((w.alloc o0).alloc o1).alloc o2).alloc o3).alloc o4).heap[w.heap.size + 1]? = some o1 ∧ (((((w.alloc o0).alloc o1).alloc o2).alloc o3).alloc o4).heap[w.heap.size + 1 + 1]? = some o2 ∧ (((((w.alloc o0).alloc o1).alloc o2).alloc o3).alloc o4).heap[w.heap.size + 1 + 1 + 1]? = some o3 ∧ (((((w.alloc o0).alloc o1).alloc o2).alloc o3).alloc o4).heap[w.heap.size + 1 + 1 + 1 + 1]? = some o4 := by
  have a0 := World.alloc_heap_new w o0
  have a1 := World.alloc_heap_new (w.alloc o0) o1
  have a2 := World.alloc_heap_new ((w.alloc o0).alloc o1) o2
  have a3 := World.alloc_heap_new (((w.alloc o0).alloc o1).alloc o2) o3
  have a4 := World.alloc_heap_new ((((w.alloc o0).alloc o1).alloc o2).alloc o3) o4
  simp only [World.size_alloc] at a1 a2 a3 a4
  have k := fun (v : World) (o : Obj) (b : Nat) (x : Obj) (h : v.heap[b]? = some x) => ((b_new v o).block b (Array.getElem?_eq_some_iff.1 h).1).trans h
  exact ⟨k _ _ _ _ (k _ _ _ _ (k _ _ _ _ (k _ _ _ _ a0))), k _ _ _ _ (k _ _ _ _ (k _ _ _ _ a1)), k _ _ _ _ (k _ _ _ _ a2), k _ _ _ _ a3, a4⟩
theorem cell1 {W : World} {b : Nat} {v : Value} {t : TypeId} (h : W.heap[b]? = some (.cells #[v] t (0, 0))) : W.cell? ⟨b, 0, none⟩ = some v ∧ W.frozen? ⟨b, 0, none⟩ = false ∧ b < W.heap.size :=
  ⟨by simp [World.cell?, h], by simp [World.frozen?, h], (Array.getElem?_eq_some_iff.1 h).1⟩
/-- The two named results, laid behind a panic. -/
theorem after_catch {w w1 : World} {b1 b2 b3 : Nat} {a0 e0 a er : Int} {t2 t3 : TypeId} {o1 : Obj} (hb : Below w.heap.size w w1) (h1 : w1.heap[b1]? = some o1) (h2 : w1.heap[b2]? = some (.cells #[.int .i64 a0] t2 (0, 0))) (h3 : w1.heap[b3]? = some (.cells #[.int .i64 e0] t3 (0, 0))) (n12 : b1 ≠ b2) (n13 : b1 ≠ b3) (n23 : b2 ≠ b3) (g2 : w.heap.size ≤ b2) (g3 : w.heap.size ≤ b3) (o : Obj) :
    (((w1.setCell ⟨b2, 0, none⟩ (.int .i64 a)).setCell ⟨b3, 0, none⟩ (.int .i64 er)).alloc o).heap[b1]? = some o1 ∧ (((w1.setCell ⟨b2, 0, none⟩ (.int .i64 a)).setCell ⟨b3, 0, none⟩ (.int .i64 er)).alloc o).heap[b2]? = some (.cells #[.int .i64 a] t2 (0, 0)) ∧ (((w1.setCell ⟨b2, 0, none⟩ (.int .i64 a)).setCell ⟨b3, 0, none⟩ (.int .i64 er)).alloc o).heap[b3]? = some (.cells #[.int .i64 er] t3 (0, 0)) ∧ Below w.heap.size w (((w1.setCell ⟨b2, 0, none⟩ (.int .i64 a)).setCell ⟨b3, 0, none⟩ (.int .i64 er)).alloc o) ∧ w1.grownBy (w1.setCell ⟨b2, 0, none⟩ (.int .i64 a)) (some b2) := by
  have e2 : (w1.setCell ⟨b2, 0, none⟩ (.int .i64 a)).heap[b2]? = some (.cells #[.int .i64 a] t2 (0, 0)) := heap_setCell_same w1 b2 0 _ _ (.int .i64 a) h2
  have e3 : (w1.setCell ⟨b2, 0, none⟩ (.int .i64 a)).heap[b3]? = _ := (Below.heap_setCell w1 ⟨b2, 0, none⟩ (.int .i64 a) b3 (fun e => n23 e.symm)).trans h3
  have e1 : (w1.setCell ⟨b2, 0, none⟩ (.int .i64 a)).heap[b1]? = _ := (Below.heap_setCell w1 ⟨b2, 0, none⟩ (.int .i64 a) b1 n12).trans h1
  have k3 := heap_setCell_same (w1.setCell ⟨b2, 0, none⟩ (.int .i64 a)) b3 0 _ _ (.int .i64 er) e3
  have k2 := (Below.heap_setCell (w1.setCell ⟨b2, 0, none⟩ (.int .i64 a)) ⟨b3, 0, none⟩ (.int .i64 er) b2 n23).trans e2
  have k1 := (Below.heap_setCell (w1.setCell ⟨b2, 0, none⟩ (.int .i64 a)) ⟨b3, 0, none⟩ (.int .i64 er) b1 n13).trans e1
  have kk := fun (v : World) (o : Obj) (b : Nat) (x : Obj) (h : v.heap[b]? = some x) => ((b_new v o).block b (Array.getElem?_eq_some_iff.1 h).1).trans h
  have hbb := (hb.setCell (p := ⟨b2, 0, none⟩) g2 (.int .i64 a)).setCell (p := ⟨b3, 0, none⟩) g3 (.int .i64 er)
  exact ⟨kk _ o _ _ k1, kk _ o _ _ k2, kk _ o _ _ k3, hbb.trans ((b_new _ o).mono hbb.size), grown_set _ _ _ _⟩
/-- The results, stored by the return. -/
theorem after_idle {w w1 : World} {b1 b2 b3 : Nat} {a0 e0 : Int} {t2 t3 : TypeId} {o1 : Obj} (hb : Below w.heap.size w w1) (h1 : w1.heap[b1]? = some o1) (h2 : w1.heap[b2]? = some (.cells #[.int .i64 a0] t2 (0, 0))) (h3 : w1.heap[b3]? = some (.cells #[.int .i64 e0] t3 (0, 0))) (n12 : b1 ≠ b2) (n13 : b1 ≠ b3) (n23 : b2 ≠ b3) (g2 : w.heap.size ≤ b2) (g3 : w.heap.size ≤ b3) (a er : Int) :
    ((w1.setCell ⟨b2, 0, none⟩ (.int .i64 a)).setCell ⟨b3, 0, none⟩ (.int .i64 er)).heap[b1]? = some o1 ∧ ((w1.setCell ⟨b2, 0, none⟩ (.int .i64 a)).setCell ⟨b3, 0, none⟩ (.int .i64 er)).heap[b2]? = some (.cells #[.int .i64 a] t2 (0, 0)) ∧ ((w1.setCell ⟨b2, 0, none⟩ (.int .i64 a)).setCell ⟨b3, 0, none⟩ (.int .i64 er)).heap[b3]? = some (.cells #[.int .i64 er] t3 (0, 0)) ∧ Below w.heap.size w ((w1.setCell ⟨b2, 0, none⟩ (.int .i64 a)).setCell ⟨b3, 0, none⟩ (.int .i64 er)) := by
  have e2 : (w1.setCell ⟨b2, 0, none⟩ (.int .i64 a)).heap[b2]? = some (.cells #[.int .i64 a] t2 (0, 0)) := heap_setCell_same w1 b2 0 _ _ (.int .i64 a) h2
  have e3 : (w1.setCell ⟨b2, 0, none⟩ (.int .i64 a)).heap[b3]? = _ := (Below.heap_setCell w1 ⟨b2, 0, none⟩ (.int .i64 a) b3 (fun e => n23 e.symm)).trans h3
  have e1 : (w1.setCell ⟨b2, 0, none⟩ (.int .i64 a)).heap[b1]? = _ := (Below.heap_setCell w1 ⟨b2, 0, none⟩ (.int .i64 a) b1 n12).trans h1
  have k3 := heap_setCell_same (w1.setCell ⟨b2, 0, none⟩ (.int .i64 a)) b3 0 _ _ (.int .i64 er) e3
  have k2 := (Below.heap_setCell (w1.setCell ⟨b2, 0, none⟩ (.int .i64 a)) ⟨b3, 0, none⟩ (.int .i64 er) b2 n23).trans e2
  have k1 := (Below.heap_setCell (w1.setCell ⟨b2, 0, none⟩ (.int .i64 a)) ⟨b3, 0, none⟩ (.int .i64 er) b1 n13).trans e1
  exact ⟨k1, k2, k3, (hb.setCell (p := ⟨b2, 0, none⟩) g2 (.int .i64 a)).setCell (p := ⟨b3, 0, none⟩) g3 (.int .i64 er)⟩
/-- Where it is wrong: at the token that comes next, or behind the last one. -/
def atOf (len : Int) : List Tk → Int
  | [] => len
  | t :: _ => t.pos
def ParsedOut (w : World) (R : Ex → Int → Int → Prop) (e : Ending) (w' : World) : Prop :=
  ∃ (x : Ex) (d : Nd) (B : Option Addr) (m cp : Nat) (a er : Int), e = .returned (.tuple #[.agg #[.int .i64 d.op, .int .i64 d.k, .int .i64 d.n, .string d.s, .string d.nm, .slice B m cp], .int .i64 a, .int .i64 er]) ∧ IsP (fun b => w.heap.size ≤ b) w' x d B m ∧ R x a er ∧ Below w.heap.size w w'

set_option maxRecDepth 100000 in
set_option maxHeartbeats 8000000 in
theorem parsed_any (L : List Tk) (A : Option Addr) (c : Nat) (ln : Int) (w : World) (hE : ∀ P, w.heap.size ≤ P → Env w P A L) (hFu : Full L) (hSm : Small L) (o : Out) (ho : Ev (.form 0) L o) (hsh : PsTot.Shape L.length o) :
    Calls Tryz.prog 8 #[.slice A L.length c, .int .i64 ln] w (ParsedOut w fun x a er => (o = .ok [x] [] ∧ a = 0 ∧ er = 0) ∨ ∃ r, ((∃ x, o = .ok [x] r ∧ r ≠ []) ∨ o = .bad r) ∧ a = atOf ln r ∧ er = 3) := by
  have hmf : ∀ (fn : Fn) (first cap : Array Value) (w : World), (Instr.makeFunc fn first cap).run Tryz.prog w = .ok (.func fn first cap) w := fun _ _ _ _ => rfl
  obtain ⟨hnt, f, hrun⟩ := ho
  have hrun := hrun f (Nat.le_refl _)
  obtain ⟨V, hV⟩ : ∃ V, ((((w.alloc (.cells #[.int .i64 ln] 3)).alloc (.cells #[.int .i64 0, .int .i64 0, .int .i64 0, .string ⟨#[]⟩, .string ⟨#[]⟩, .slice none 0 0] 26)).alloc (.cells #[.int .i64 0] 3)).alloc (.cells #[.int .i64 0] 27)).alloc (.cells #[.slice A L.length c, .int .i64 0] 50) = V := ⟨_, rfl⟩
  have hbV : Below w.heap.size w V := by rw [← hV]; exact b_more (b_more (b_more (b_more (b_new _ _) _) _) _) _
  have hsV : V.heap.size = w.heap.size + 5 := by rw [← hV]; simp
  have hbx : V.heap[w.heap.size]? = some (.cells #[.int .i64 ln] 3 (0, 0)) ∧ V.heap[w.heap.size + 1]? = some (.cells #[.int .i64 0, .int .i64 0, .int .i64 0, .string ⟨#[]⟩, .string ⟨#[]⟩, .slice none 0 0] 26 (0, 0)) ∧ V.heap[w.heap.size + 1 + 1]? = some (.cells #[.int .i64 0] 3 (0, 0)) ∧ V.heap[w.heap.size + 1 + 1 + 1]? = some (.cells #[.int .i64 0] 27 (0, 0)) ∧ V.heap[w.heap.size + 1 + 1 + 1 + 1]? = some (.cells #[.slice A L.length c, .int .i64 0] 50 (0, 0)) := by
    rw [← hV]; exact box5 w _ _ _ _ _
  have hSt : St w (w.heap.size + 1 + 1 + 1 + 1) A c L V 0 := ⟨hbx.2.2.2.2, hbV, Nat.zero_le _⟩
  have hEP := hE (w.heap.size + 1 + 1 + 1 + 1) (by omega)
  have hc := form_all (c := c) hEP hFu hSm f 0 V 0 o (by omega) hrun hnt hSt
  have HC := Lib.hid hc
  have HV := Lib.hid hV
  have HBV := Lib.hid hbV
  have HEP := Lib.hid hEP
  have HBx := Lib.hid hbx
  clear hc hV hbV hEP hbx hSt hE hrun hnt
  go_enter_defers Tryz.func8, Tryz.ntmps8
  go_wp2_with fail
  rw [HV.out]
  refine HC.out.mono ?_; intro e w1 he
  have hkeep : ∀ W1, V.grownBy W1 (some (w.heap.size + 1 + 1 + 1 + 1)) → (W1.heap[w.heap.size]? = some (.cells #[.int .i64 ln] 3 (0, 0)) ∧ W1.heap[w.heap.size + 1]? = some (.cells #[.int .i64 0, .int .i64 0, .int .i64 0, .string ⟨#[]⟩, .string ⟨#[]⟩, .slice none 0 0] 26 (0, 0)) ∧ W1.heap[w.heap.size + 1 + 1]? = some (.cells #[.int .i64 0] 3 (0, 0)) ∧ W1.heap[w.heap.size + 1 + 1 + 1]? = some (.cells #[.int .i64 0] 27 (0, 0))) ∧ Below w.heap.size w W1 := fun W1 hg => by
    obtain ⟨b0, b1, b2, b3, _⟩ := HBx.out
    have k : ∀ b, b < w.heap.size + 1 + 1 + 1 + 1 → W1.heap[b]? = V.heap[b]? := fun b hb => hg.block b (by omega) (fun e => by injection e with e; omega)
    exact ⟨⟨(k _ (by omega)).trans b0, (k _ (by omega)).trans b1, (k _ (by omega)).trans b2, (k _ (by omega)).trans b3⟩, HBV.out.grown hg HBV.out.size (fun j e => by injection e with e; omega)⟩
  cases o with
  | tired => exact he.elim
  | bad r =>
    obtain ⟨v, rfl, hw, hg⟩ := he
    obtain ⟨⟨b0, b1, b2, b3⟩, hbw⟩ := hkeep w1 hg
    obtain ⟨x0, f0, l0⟩ := cell1 b0
    obtain ⟨x2, f2, l2⟩ := cell1 b2
    obtain ⟨x3, f3, l3⟩ := cell1 b3
    obtain ⟨x1, f1⟩ := cells_of b1
    have l1 := (Array.getElem?_eq_some_iff.1 b1).1
    have HBw := Lib.hid hbw
    have HB := Lib.hid (And.intro b1 (And.intro b2 b3))
    clear hkeep hg b0 b1 b2 b3 hbw HBx HC HV
    rcases hw with ⟨rfl, rfl⟩ | ⟨t, r', rfl, rfl⟩
    · go_wp2_with fail
      refine leaves_cons (f := 15) (args := #[.pointer (some ⟨w.heap.size + 1 + 1, 0, none⟩), .pointer (some ⟨w.heap.size + 1 + 1 + 1, 0, none⟩), .pointer (some ⟨w.heap.size, 0, none⟩)]) (by simp) (by simp [go_sem]) ?_
      refine (catch_end (w.heap.size + 1 + 1) (w.heap.size + 1 + 1 + 1) w.heap.size 0 0 ln w1 x2 f2 x3 f3 x0 (by omega) l2 l3 l0).mono ?_
      rintro e u' w'' ⟨rfl, rfl, o, rfl⟩
      obtain ⟨k1, k2, k3, kb, _⟩ := after_catch (a := ln) (er := 3) HBw.out HB.out.1 HB.out.2.1 HB.out.2.2 (by omega) (by omega) (by omega) (by omega) (by omega) o
      obtain ⟨W2, hW2⟩ : ∃ W2, ((w1.setCell ⟨w.heap.size + 1 + 1, 0, none⟩ (.int .i64 ln)).setCell ⟨w.heap.size + 1 + 1 + 1, 0, none⟩ (.int .i64 3)).alloc o = W2 := ⟨_, rfl⟩
      rw [hW2] at k1 k2 k3 kb ⊢
      obtain ⟨y1, _⟩ := cells_of k1
      obtain ⟨y2, _⟩ := cell1 k2
      obtain ⟨y3, _⟩ := cell1 k3
      clear hW2 x0 x1 x2 x3 f0 f1 f2 f3
      simp [Leaves, settle, results, Tryz.results8, go_sem, y1, y2, y3]
      exact ⟨.mk ⟨0, 0, 0, ⟨#[]⟩, ⟨#[]⟩⟩ [], ⟨0, 0, 0, ⟨#[]⟩, ⟨#[]⟩⟩, none, 0, 0, _, _, rfl, isP_leaf _ _ _ _ (Nat.zero_le _) (Nat.zero_le _), by simp [atOf], kb⟩
    · go_wp2_with fail
      unfold tkV
      refine leaves_cons (f := 15) (args := #[.pointer (some ⟨w.heap.size + 1 + 1, 0, none⟩), .pointer (some ⟨w.heap.size + 1 + 1 + 1, 0, none⟩), .pointer (some ⟨w.heap.size, 0, none⟩)]) (by simp) (by simp [go_sem]) ?_
      refine (catch_tok (w.heap.size + 1 + 1) (w.heap.size + 1 + 1 + 1) w.heap.size _ _ _ _ 0 0 _ _ w1 x2 f2 x3 f3 (by omega) l2 l3).mono ?_
      rintro e u' w'' ⟨rfl, rfl, o, rfl⟩
      obtain ⟨k1, k2, k3, kb, _⟩ := after_catch (a := (t.pos : Int)) (er := 3) HBw.out HB.out.1 HB.out.2.1 HB.out.2.2 (by omega) (by omega) (by omega) (by omega) (by omega) o
      obtain ⟨W2, hW2⟩ : ∃ W2, ((w1.setCell ⟨w.heap.size + 1 + 1, 0, none⟩ (.int .i64 (t.pos : Int))).setCell ⟨w.heap.size + 1 + 1 + 1, 0, none⟩ (.int .i64 3)).alloc o = W2 := ⟨_, rfl⟩
      rw [hW2] at k1 k2 k3 kb ⊢
      obtain ⟨y1, _⟩ := cells_of k1
      obtain ⟨y2, _⟩ := cell1 k2
      obtain ⟨y3, _⟩ := cell1 k3
      clear hW2 x0 x1 x2 x3 f0 f1 f2 f3
      simp [Leaves, settle, results, Tryz.results8, go_sem, y1, y2, y3]
      exact ⟨.mk ⟨0, 0, 0, ⟨#[]⟩, ⟨#[]⟩⟩ [], ⟨0, 0, 0, ⟨#[]⟩, ⟨#[]⟩⟩, none, 0, 0, _, _, rfl, isP_leaf _ _ _ _ (Nat.zero_le _) (Nat.zero_le _), by simp [atOf], kb⟩
  | ok l r =>
    obtain ⟨x, rfl⟩ : ∃ x, l = [x] := by
      match l, he with
      | [], he => exact he.elim
      | x :: y :: l, he => exact he.elim
      | [x], he => exact ⟨x, rfl⟩
    obtain ⟨d, B, m, cp, k', rfl, hix, rfl, _, hS1, hg⟩ := he
    obtain ⟨⟨b0, b1, b2, b3⟩, hbw⟩ := hkeep w1 hg
    have hh := fun b (hb : b ≠ w.heap.size + 1) => s6_heap w1 (w.heap.size + 1) b hb (.int .i64 d.op) (.int .i64 d.k) (.int .i64 d.n) (.string d.s) (.string d.nm) (.slice B m cp)
    have hgS := s6_grown w1 (w.heap.size + 1) (.int .i64 d.op) (.int .i64 d.k) (.int .i64 d.n) (.string d.s) (.string d.nm) (.slice B m cp)
    obtain ⟨WS, hWS⟩ : ∃ W, S6 w1 (w.heap.size + 1) (.int .i64 d.op) (.int .i64 d.k) (.int .i64 d.n) (.string d.s) (.string d.nm) (.slice B m cp) = W := ⟨_, rfl⟩
    have c1 := set6_box b1 (.int .i64 d.op) (.int .i64 d.k) (.int .i64 d.n) (.string d.s) (.string d.nm) (.slice B m cp)
    rw [hWS] at hh hgS c1
    have c0 := (hh _ (by omega)).trans b0
    have c2 := (hh _ (by omega)).trans b2
    have c3 := (hh _ (by omega)).trans b3
    have hbS : Below w.heap.size w WS := hbw.grown hgS hbw.size (fun j e => by injection e with e; omega)
    have hSS : St w (w.heap.size + 1 + 1 + 1 + 1) A c L WS k' := ⟨(hh _ (by omega)).trans hS1.prs, hbS, hS1.le⟩
    have hixS : IsP (fun b => w.heap.size + 5 ≤ b) WS x d B m := IsP.keep (fun b hb _ => hh b (by have h1 : V.heap.size ≤ b := hb; omega)) (fun b hb _ => by have h1 : V.heap.size ≤ b := hb; show w.heap.size + 5 ≤ b; omega) _ _ _ _ hix
    obtain ⟨xx1, ff1⟩ := cells_of b1
    have l1' := (Array.getElem?_eq_some_iff.1 b1).1
    have HWS := Lib.hid hWS
    clear hkeep hg hh hgS b0 b1 b2 b3 hbw hix hS1 HBx HC HV hWS
    go_upto_region 4 with fail
    unfold S6 at HWS
    rw [HWS.out]
    clear xx1 ff1 l1' HWS
    obtain ⟨x0, f0, l0⟩ := cell1 c0
    obtain ⟨x2, f2, l2⟩ := cell1 c2
    obtain ⟨x3, f3, l3⟩ := cell1 c3
    obtain ⟨x1, f1⟩ := cells_of c1
    have l1 := (Array.getElem?_eq_some_iff.1 c1).1
    obtain ⟨p0, p1⟩ := hSS.at
    have lP := hSS.lt
    rcases Nat.lt_or_ge k' L.length with hk | hk
    · have hT := throw_c HEP.out hSS
      go_wp2_with fail
      refine hT.mono ?_
      rintro e w5 ⟨v, rfl, hw, mm, rfl⟩
      obtain ⟨Wd, hWd⟩ : ∃ Wd, WS.drewN mm = Wd := ⟨_, rfl⟩
      have hhd : Wd.heap = WS.heap := by rw [← hWd]; rfl
      have hbd : Below w.heap.size w Wd := by rw [← hWd]; exact b_drewN hbS mm
      rw [← hhd] at c1 c2 c3
      have hixd : IsP (fun b => w.heap.size + 5 ≤ b) Wd x d B m := IsP.keep (fun b _ _ => by rw [hhd]) (fun b hb _ => hb) _ _ _ _ hixS
      rw [hWd]
      clear x0 x1 x2 x3 f0 f1 f2 f3 l0 l1 l2 l3 p0 p1 lP
      obtain ⟨x2, f2, l2⟩ := cell1 c2
      obtain ⟨x3, f3, l3⟩ := cell1 c3
      have HB := Lib.hid (And.intro c1 (And.intro c2 c3))
      have HBd := Lib.hid hbd
      have HIx := Lib.hid hixd
      rcases hw with ⟨h0, _⟩ | ⟨t, r', hd, rfl⟩
      · exact absurd (congrArg List.length h0) (by simp; omega)
      clear c1 c2 c3 c0 hixd hixS hbd hbS hSS hhd hWd hT
      unfold tkV
      refine leaves_cons (f := 15) (args := #[.pointer (some ⟨w.heap.size + 1 + 1, 0, none⟩), .pointer (some ⟨w.heap.size + 1 + 1 + 1, 0, none⟩), .pointer (some ⟨w.heap.size, 0, none⟩)]) (by simp) (by simp [go_sem]) ?_
      refine (catch_tok (w.heap.size + 1 + 1) (w.heap.size + 1 + 1 + 1) w.heap.size _ _ _ _ 0 0 _ _ Wd x2 f2 x3 f3 (by omega) l2 l3).mono ?_
      rintro e u' w'' ⟨rfl, rfl, o, rfl⟩
      obtain ⟨k1, k2, k3, kb, _⟩ := after_catch (a := (t.pos : Int)) (er := 3) HBd.out HB.out.1 HB.out.2.1 HB.out.2.2 (by omega) (by omega) (by omega) (by omega) (by omega) o
      have hix3 : IsP (fun b => w.heap.size ≤ b) (((Wd.setCell ⟨w.heap.size + 1 + 1, 0, none⟩ (.int .i64 (t.pos : Int))).setCell ⟨w.heap.size + 1 + 1 + 1, 0, none⟩ (.int .i64 3)).alloc o) x d B m := IsP.keep (fun b hb hl => by
        have h1 : w.heap.size + 5 ≤ b := hb
        exact ((b_new _ o).block b (by simp only [sz_set]; exact hl)).trans ((Below.heap_setCell _ ⟨w.heap.size + 1 + 1 + 1, 0, none⟩ _ b (by dsimp only; omega)).trans (Below.heap_setCell _ ⟨w.heap.size + 1 + 1, 0, none⟩ _ b (by dsimp only; omega)))) (fun b hb _ => by have h1 : w.heap.size + 5 ≤ b := hb; show w.heap.size ≤ b; omega) _ _ _ _ HIx.out
      obtain ⟨W2, hW2⟩ : ∃ W2, ((Wd.setCell ⟨w.heap.size + 1 + 1, 0, none⟩ (.int .i64 (t.pos : Int))).setCell ⟨w.heap.size + 1 + 1 + 1, 0, none⟩ (.int .i64 3)).alloc o = W2 := ⟨_, rfl⟩
      rw [hW2] at k1 k2 k3 kb hix3 ⊢
      obtain ⟨y1, _⟩ := cells_of k1
      obtain ⟨y2, _⟩ := cell1 k2
      obtain ⟨y3, _⟩ := cell1 k3
      clear hW2 x2 x3 f2 f3
      simp [Leaves, settle, results, Tryz.results8, go_sem, y1, y2, y3]
      exact ⟨x, d, B, m, cp, _, _, rfl, hix3, .inr ⟨t :: r', ⟨hd, by simp⟩, rfl, rfl⟩, kb⟩
    · have HB := Lib.hid (And.intro (set6_box c1 (.int .i64 d.op) (.int .i64 d.k) (.int .i64 d.n) (.string d.s) (.string d.nm) (.slice B m cp)) (And.intro ((s6_heap WS (w.heap.size + 1) _ (by omega) (.int .i64 d.op) (.int .i64 d.k) (.int .i64 d.n) (.string d.s) (.string d.nm) (.slice B m cp)).trans c2) ((s6_heap WS (w.heap.size + 1) _ (by omega) (.int .i64 d.op) (.int .i64 d.k) (.int .i64 d.n) (.string d.s) (.string d.nm) (.slice B m cp)).trans c3)))
      have HG := Lib.hid (s6_grown WS (w.heap.size + 1) (.int .i64 d.op) (.int .i64 d.k) (.int .i64 d.n) (.string d.s) (.string d.nm) (.slice B m cp))
      have HH := Lib.hid (fun b (hb : b ≠ w.heap.size + 1) => s6_heap WS (w.heap.size + 1) b hb (.int .i64 d.op) (.int .i64 d.k) (.int .i64 d.n) (.string d.s) (.string d.nm) (.slice B m cp))
      obtain ⟨WT, hWT⟩ : ∃ W, S6 WS (w.heap.size + 1) (.int .i64 d.op) (.int .i64 d.k) (.int .i64 d.n) (.string d.s) (.string d.nm) (.slice B m cp) = W := ⟨_, rfl⟩
      rw [hWT] at HB HG HH
      have HWT := Lib.hid hWT
      clear hWT
      go_wp2_with fail
      unfold S6 at HWT
      rw [HWT.out]
      have hbT : Below w.heap.size w WT := hbS.grown HG.out hbS.size (fun j e => by injection e with e; omega)
      have hixT : IsP (fun b => w.heap.size + 5 ≤ b) WT x d B m := IsP.keep (fun b hb _ => HH.out b (by have h1 : w.heap.size + 5 ≤ b := hb; omega)) (fun b hb _ => hb) _ _ _ _ hixS
      refine leaves_cons (f := 15) (args := #[.pointer (some ⟨w.heap.size + 1 + 1, 0, none⟩), .pointer (some ⟨w.heap.size + 1 + 1 + 1, 0, none⟩), .pointer (some ⟨w.heap.size, 0, none⟩)]) (by simp) (by simp [go_sem]) ?_
      refine (catch_idle ⟨w.heap.size + 1 + 1, 0, none⟩ ⟨w.heap.size + 1 + 1 + 1, 0, none⟩ ⟨w.heap.size, 0, none⟩ _).mono ?_
      rintro e u' w'' ⟨rfl, rfl, rfl⟩
      obtain ⟨k1, k2, k3, kb⟩ := after_idle hbT HB.out.1 HB.out.2.1 HB.out.2.2 (by omega) (by omega) (by omega) (by omega) (by omega) 0 0
      have hix3 : IsP (fun b => w.heap.size ≤ b) ((WT.setCell ⟨w.heap.size + 1 + 1, 0, none⟩ (.int .i64 0)).setCell ⟨w.heap.size + 1 + 1 + 1, 0, none⟩ (.int .i64 0)) x d B m := IsP.keep (fun b hb hl => by
        have h1 : w.heap.size + 5 ≤ b := hb
        exact (Below.heap_setCell _ ⟨w.heap.size + 1 + 1 + 1, 0, none⟩ _ b (by dsimp only; omega)).trans (Below.heap_setCell _ ⟨w.heap.size + 1 + 1, 0, none⟩ _ b (by dsimp only; omega))) (fun b hb _ => by have h1 : w.heap.size + 5 ≤ b := hb; show w.heap.size ≤ b; omega) _ _ _ _ hixT
      obtain ⟨W2, hW2⟩ : ∃ W2, (WT.setCell ⟨w.heap.size + 1 + 1, 0, none⟩ (.int .i64 0)).setCell ⟨w.heap.size + 1 + 1 + 1, 0, none⟩ (.int .i64 0) = W2 := ⟨_, rfl⟩
      rw [hW2] at k1 k2 k3 kb hix3 ⊢
      obtain ⟨y1, _⟩ := cells_of k1
      obtain ⟨y2, _⟩ := cell1 k2
      obtain ⟨y3, _⟩ := cell1 k3
      clear hW2 x0 x1 x2 x3 f0 f1 f2 f3
      simp [Leaves, settle, results, Tryz.results8, go_sem, y1, y2, y3]
      exact ⟨x, d, B, m, cp, _, _, rfl, hix3, .inl (by simp <;> omega), kb⟩
end Go.Proofs.YtjjchbafobcofaaGreatDoor.PsD
