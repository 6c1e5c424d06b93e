/- The nodes of a formula, in preorder: visit, nodes. -/
import Derived.RangeFuncNested
import Derived.RangeFuncBound
import Derived.RangeFuncCalls
import Derived.RangeFuncLeaves
import Derived.Shelf.Abstract
import Derived.Shelf.RegionOpen
import Derived.WalkKit
import Derived.OwnWalkIn
import Derived.TacticsInMore
import Derived.LoopNIn
import Derived.LoopIn
import Derived.Test.YtehkebncdahmcaaGreatDoorEx
namespace Go.Proofs.YtehkebncdahmcaaGreatDoor.ExV
open Go.RowKit Go.Shelf
open ExM Kit ExL
set_option linter.unusedVariables false
attribute [local go_sem] Oper.semAt_some

theorem room_of_none {F : Fence} (hd : F.depth = none) (k : Nat) : F.room k := fun d h => by rw [hd] at h; cases h
theorem anyDepthR {F : Fence} (hd : F.depth = none) {m m' : Nat} {P : Program} {l : Nat} {f : FuncId} {tmps : Array Value} {assign body : Code} {w : World} {R : Ending → World → Prop}
    (h : RoundIn F m P l f tmps assign body w R) : RoundIn F m' P l f tmps assign body w R := ⟨h.1, fun c cs _ => h.2 c cs (room_of_none hd _)⟩
theorem anyDepth {F : Fence} (hd : F.depth = none) {m : Nat} (m' : Nat) {P : Program} {l : Nat} {args : Array Value} {W : World} {R : Ending → World → Prop} (h : YieldAt F m P l args W R) : YieldAt F m' P l args W R := by
  obtain ⟨fn, tmps, assign, body, hy, hR⟩ := h
  exact ⟨fn, tmps, assign, body, hy, anyDepthR hd hR⟩

/-- A node as it is handed out: its own data, and where its operands lie. -/
structure Al where
  d : Nd
  m : Nat
  A : Option Addr
  c : Nat
  hm : m ≤ maxLen
  hs : d.nm.size ≤ maxLen
def Al.nd (x : Al) : Nd × Nat := (x.d, x.m)
def encs (x : Al) : Array Value := #[.agg #[.int .i64 x.d.op, .int .i64 x.d.k, .int .i64 x.d.n, .string x.d.s, .string x.d.nm, .slice x.A x.m x.c]]

/-- What a round that goes on keeps: what lay below n₀, and cells from n₁ on. -/
structure Kp (n₀ n₁ : Nat) (W W' : World) : Prop where
  below : Below n₀ W W'
  cells : ∀ b o, n₁ ≤ b → W.heap[b]? = some o → o.isCells = true → W'.heap[b]? = some o
theorem Kp.refl (n₀ n₁ : Nat) (W : World) : Kp n₀ n₁ W W := ⟨Below.refl _ _, fun _ _ _ h _ => h⟩
theorem Kp.trans {n₀ n₁ : Nat} {A B C : World} (h : Kp n₀ n₁ A B) (g : Kp n₀ n₁ B C) : Kp n₀ n₁ A C := ⟨h.below.trans g.below, fun b o hb ho hc => g.cells b o hb (h.cells b o hb ho hc) hc⟩
theorem Kp.of_below {n₀ n₁ : Nat} {A B : World} (h : Below A.heap.size A B) (hn : n₀ ≤ A.heap.size) : Kp n₀ n₁ A B :=
  ⟨h.mono hn, fun b o _ ho _ => by
    have hl : b < A.heap.size := by
      rcases Nat.lt_or_ge b A.heap.size with hl | hl
      · exact hl
      · rw [Array.getElem?_eq_none hl] at ho; cases ho
    rw [h.block b hl]; exact ho⟩
theorem Kp.alloc {n₀ n₁ : Nat} {A : World} (o : Obj) (hn : n₀ ≤ A.heap.size) : Kp n₀ n₁ A (A.alloc o) := Kp.of_below (b_new A o) hn
theorem kp_putObj {n₀ n₁ : Nat} (W : World) (l : Nat) (o o' : Obj) (hl : n₀ ≤ l) (ho : W.heap[l]? = some o) (hc : o.isCells = false) : Kp n₀ n₁ W (W.putObj l o') := by
  have hlt := (Array.getElem?_eq_some_iff.1 ho).1
  refine ⟨(Below.refl n₀ W).grown (grownBy_putObj' W l o') (by omega) (fun k e => by cases e; exact hl), fun b o2 _ hb h2 => ?_⟩
  have hne : b ≠ l := by
    rintro rfl
    rw [ho] at hb; cases hb; rw [hc] at h2; cases h2
  rw [World.putObj_heap_other hne]; exact hb
theorem Kp.box {n₀ n₁ : Nat} {W W' : World} {cs : Array Value} {t : TypeId} (h : Kp n₀ n₁ (W.alloc (.cells cs t)) W') (hn : n₁ ≤ W.heap.size) (i : Nat) : W'.cell? ⟨W.heap.size, i, none⟩ = cs[i]? := by
  have h1 := h.cells W.heap.size (.cells cs t) hn (World.alloc_heap_new W _) rfl
  simp [World.cell?, h1]

/-- How visit ends. -/
def VOut (w0 : World) (n₁ : Nat) (J Jx : List Al → World → Prop) (pre : List Al) (P : List (Nd × Nat)) (W : World) (e : Ending) (W' : World) : Prop :=
  (e = .returned (.bool true) ∧ (∃ ys : List Al, ys.map Al.nd = P ∧ J (pre ++ ys) W') ∧ Kp w0.heap.size n₁ W W') ∨ (e = .returned (.bool false) ∧ ∃ q : List Al, q.map Al.nd <+: P ∧ Jx (pre ++ q) W')
structure VInv (w0 : World) (n₁ : Nat) (J : List Al → World → Prop) (pre : List Al) (P : List (Nd × Nat)) (W : World) (ys : List Al) (wr : World) : Prop where
  is : ys.map Al.nd = P
  j : J (pre ++ ys) wr
  kp : Kp w0.heap.size n₁ W wr
  below : Below w0.heap.size w0 wr
  le : n₁ ≤ wr.heap.size

theorem VInv.step {w0 : World} {n₁ : Nat} {J : List Al → World → Prop} {pre : List Al} {d : Nd × Nat} {l : List Ex} {k : Nat} {W wr w2 : World} {ys zs : List Al} {o : Obj} (h : VInv w0 n₁ J pre (d :: preL (l.take k)) W ys wr) (hk : k < l.length)
    (hz : zs.map Al.nd = l[k].pre) (hj : J (pre ++ ys ++ zs) w2) (hp : Kp w0.heap.size n₁ (wr.alloc o) w2) : VInv w0 n₁ J pre (d :: preL (l.take (k + 1))) W (ys ++ zs) w2 := by
  have hp2 : Kp w0.heap.size n₁ wr w2 := (Kp.alloc o h.below.size).trans hp
  exact ⟨by rw [List.map_append, h.is, hz, preL_at l k hk]; rfl, by rw [← List.append_assoc]; exact hj, h.kp.trans hp2, h.below.trans hp2.below, by have := hp2.below.size; have := h.le; omega⟩
theorem pre_prefix (l : List Ex) (k : Nat) (hk : k < l.length) {q : List (Nd × Nat)} (h : q <+: l[k].pre) : preL (l.take k) ++ q <+: preL l := by
  have e : preL l = preL (l.take (k + 1)) ++ preL (l.drop (k + 1)) := by rw [← preL_append, List.take_append_drop]
  rw [e, preL_at l k hk]
  obtain ⟨r, hr⟩ := h
  exact ⟨r ++ preL (l.drop (k + 1)), by rw [← hr]; simp [List.append_assoc]⟩

set_option maxRecDepth 100000 in
set_option maxHeartbeats 2000000 in
theorem visit_in (F : Fence) (hd : F.depth = none) (hv : F.fn 55) (hro : F.round = none) (l n₁ N : Nat) (w0 : World) (J Jx : List Al → World → Prop)
    (hJ : ∀ s W o, J s W → J s (W.alloc o))
    (hY : ∀ m pre (x : Al) W, J pre W → pre.length < N → YieldAt F m Tryz.prog l (encs x) W fun e W' => (e = .returned (.bool true) ∧ J (pre ++ [x]) W' ∧ Kp w0.heap.size n₁ W W') ∨ (e = .returned (.bool false) ∧ Jx (pre ++ [x]) W')) :
    ∀ (x : Ex) (d : Nd) (A : Option Addr) (m c : Nat) (n : Nat) (pre : List Al) (W : World), Is w0 x d A m → Below w0.heap.size w0 W → n₁ ≤ W.heap.size → J pre W → pre.length + x.nodes ≤ N →
      CallsIn F n Tryz.prog 55 #[.agg #[.int .i64 d.op, .int .i64 d.k, .int .i64 d.n, .string d.s, .string d.nm, .slice A m c], .func (.yield l) #[] #[]] W (VOut w0 n₁ J Jx pre x.pre W) := by
  refine Ex.ind fun d l' ih => ?_
  intro d' A m c n pre W his hB hn hj hN
  rw [is_mk] at his
  obtain ⟨rfl, rfl, ⟨hm, hs1, hs2⟩, his⟩ := his
  have hdd : ∀ k : Nat, (F.depth.isSome = true → 1 ≤ k) := fun k h => by rw [hd] at h; cases h
  rw [nodes_mk] at hN
  rw [pre_mk]
  have hj1 := hJ _ _ (.cells #[.int .i64 d'.op, .int .i64 d'.k, .int .i64 d'.n, .string d'.s, .string d'.nm, .slice A l'.length c] 26) hj
  have hy1 := hY (n - 1) pre ⟨d', l'.length, A, c, hm, hs2⟩ _ hj1 (by omega)
  obtain ⟨fn, tmps, assign, body, hy, hR⟩ := hy1
  unfold encs at hy
  dsimp only at hy
  have HS := Lib.hid his
  have HI := Lib.hid ih
  have HJ := Lib.hid hj
  have HR := Lib.hid hR
  clear his ih hj hj1 hR
  unfold maxLen at hm
  refine callsIn_of_wp Tryz.func55 rfl hv ?_ hro
  simp only [Tryz.ntmps55, List.size_toArray, List.length_cons, List.length_nil, Nat.reduceAdd, Nat.reduceSub, Array.replicate_succ, Array.replicate_zero, List.push_toArray, List.append_toArray, List.nil_append, List.cons_append]
  gi_wp2_with fail
  refine HR.out.mono ?_; clear HR hy; rintro e W1 (⟨rfl, hj1, hk1⟩ | ⟨rfl, hx1⟩)
  · have hc5 : W1.cell? ⟨W.heap.size, 5, none⟩ = some (.slice A l'.length c) := by rw [hk1.box hn]; rfl
    have hkW : Kp w0.heap.size n₁ W W1 := (Kp.alloc _ hB.size).trans hk1
    have hI0 : VInv w0 n₁ J pre ((d', l'.length) :: preL (l'.take 0)) W [⟨d', l'.length, A, c, hm, hs2⟩] W1 := ⟨by simp [Al.nd, preL_nil], hj1, hkW, hB.trans hkW.below, by have := hkW.below.size; omega⟩
    have HI0 := Lib.hid hI0
    clear hI0 hkW hk1 hj1
    gi_wp2_with fail
    gi_loopw [14] (fun i wr => ∃ (k : Nat) (ys : List Al), i = .int .i64 k ∧ k ≤ l'.length ∧ VInv w0 n₁ J pre ((d', l'.length) :: preL (l'.take k)) W ys wr) (fun i _ => l'.length - (intOf i).toNat)
    case atStart => exact ⟨0, _, rfl, Nat.zero_le _, HI0.out⟩
    case round =>
      obtain ⟨k, ys, rfl, hk, hV⟩ := hrel
      have HV := Lib.hid hV
      clear hV
      by_cases hlt : k < l'.length
      · obtain ⟨a, d2, B, m2, c2, rfl, hat, hi⟩ := HS.out k hlt
        obtain ⟨h0, h1, h2, h3, h4, h5⟩ := hat.below HV.out.below
        have hVb := HV.out.below
        have hVn := HV.out.le
        have hcx := HI.out _ (List.getElem_mem hlt) d2 B m2 c2 (n - 1) (pre ++ ys) (wr.alloc (.cells #[.int .i64 d2.op, .int .i64 d2.k, .int .i64 d2.n, .string d2.s, .string d2.nm, .slice B m2 c2] 26)) hi (hVb.trans ((b_new _ _).mono hVb.size)) (by simp; omega) (hJ _ _ _ HV.out.j) (by
          have e1 : ys.length = ((d', l'.length) :: preL (l'.take k)).length := by rw [← HV.out.is, List.length_map]
          have e2 := nodesL_at l' k hlt
          have e3 := nodesL_take l' (k + 1)
          rw [List.length_append, e1, List.length_cons, preL_len]; omega)
        have HC := Lib.hid hcx
        clear hcx hat hi hVb
        gi_wp2_with fail
        refine HC.out.mono ?_; rintro e w2 (⟨rfl, ⟨zs, hz, hjz⟩, hkz⟩ | ⟨rfl, q, hq, hxq⟩)
        · have hN : VInv w0 n₁ J pre ((d', l'.length) :: preL (l'.take (k + 1))) W (ys ++ zs) w2 := HV.out.step hlt hz hjz hkz
          have HN := Lib.hid hN
          clear hN hz hjz hkz
          gi_wp2_with fail
          go_roundw
          case rel => exact ⟨k + 1, _, by go_num, by omega, HN.out⟩
          case measure => simp [intOf]; omega
        · have hO : VOut w0 n₁ J Jx pre ((d', l'.length) :: preL l') W (.returned (.bool false)) w2 := .inr ⟨rfl, ys ++ q, by
            rw [List.map_append, HV.out.is]
            exact (List.prefix_cons_inj _).2 (pre_prefix l' k hlt hq), by rw [← List.append_assoc]; exact hxq⟩
          have HO := Lib.hid hO
          clear hO hq hxq
          gi_wp2_with fail
          go_ret
          exact HO.out
      · have hkl : k = l'.length := by omega
        have hO : VOut w0 n₁ J Jx pre ((d', l'.length) :: preL l') W (.returned (.bool true)) wr := .inl ⟨rfl, ⟨ys, by rw [HV.out.is, hkl, List.take_length], HV.out.j⟩, HV.out.kp⟩
        have HO := Lib.hid hO
        clear hO hkl
        gi_wp2_with fail
        go_ret
        exact HO.out
  · have hO : VOut w0 n₁ J Jx pre ((d', l'.length) :: preL l') W (.returned (.bool false)) W1 := .inr ⟨rfl, [⟨d', l'.length, A, c, hm, hs2⟩], (List.prefix_cons_inj _).2 List.nil_prefix, hx1⟩
    have HO := Lib.hid hO
    clear hO hx1
    gi_wp2_with fail
    go_ret
    exact HO.out

/-! ### nodes -/
/-- A box that holds a formula's value. -/
def Box (w : World) (B : Nat) (d : Nd) (A : Option Addr) (m c : Nat) : Prop := w.heap[B]? = some (.cells #[.int .i64 d.op, .int .i64 d.k, .int .i64 d.n, .string d.s, .string d.nm, .slice A m c] 26 (0, 0))
theorem Box.cells {w : World} {B : Nat} {d : Nd} {A : Option Addr} {m c : Nat} (h : Box w B d A m c) : w.cell? ⟨B, 0, none⟩ = some (.int .i64 d.op) ∧ w.cell? ⟨B, 1, none⟩ = some (.int .i64 d.k) ∧ w.cell? ⟨B, 2, none⟩ = some (.int .i64 d.n) ∧ w.cell? ⟨B, 3, none⟩ = some (.string d.s) ∧ w.cell? ⟨B, 4, none⟩ = some (.string d.nm) ∧ w.cell? ⟨B, 5, none⟩ = some (.slice A m c) := by
  unfold Box at h
  refine ⟨?_, ?_, ?_, ?_, ?_, ?_⟩ <;> simp [World.cell?, h]
theorem Box.lt {w : World} {B : Nat} {d : Nd} {A : Option Addr} {m c : Nat} (h : Box w B d A m c) : B < w.heap.size := (Array.getElem?_eq_some_iff.1 h).1
theorem Box.below {w w' : World} {B : Nat} {d : Nd} {A : Option Addr} {m c : Nat} (h : Box w B d A m c) (hb : Below w.heap.size w w') : Box w' B d A m c := (hb.block B h.lt).trans h
theorem Box.far {W : World} {B : Nat} {d : Nd} {A : Option Addr} {m c : Nat} (h : Box W B d A m c) {p : Addr} (hp : B ≠ p.block) (v : Value) : Box (W.setCell p v) B d A m c := (Below.heap_setCell W p v B hp).trans h
theorem Box.new (w : World) (d : Nd) (A : Option Addr) (m c : Nat) : Box (w.alloc (.cells #[.int .i64 d.op, .int .i64 d.k, .int .i64 d.n, .string d.s, .string d.nm, .slice A m c] 26)) w.heap.size d A m c := World.alloc_heap_new w _

set_option maxRecDepth 100000 in
set_option maxHeartbeats 1000000 in
theorem nodes_stops (F : Fence) (hd : F.depth = none) (hn1 : F.fn 54) (hv : F.fn 55) (hro : F.round = none) (n Bx : Nat) (w0 w : World) (x : Ex) (d : Nd) (A : Option Addr) (m c : Nat)
    (his : Is w0 x d A m) (hb : Below w0.heap.size w0 w) (hbox : Box w Bx d A m c) :
    SeqStopsK F n Tryz.prog 54 #[.pointer (some ⟨Bx, 0, none⟩)] encs (Kp w0.heap.size w.heap.size) (fun ys => ys.map Al.nd = x.pre) (fun q => q.map Al.nd <+: x.pre) x.nodes w := by
  intro l J Jx W hW hJ hJx hY h0
  have hdd : ∀ k : Nat, (F.depth.isSome = true → 1 ≤ k) := fun k h => by rw [hd] at h; cases h
  obtain ⟨b0, b1, b2, b3, b4, b5⟩ := (hbox.below hW).cells
  have hp := visit_in F hd hv hro l w.heap.size x.nodes w0 J Jx (fun s W o hs => hJ s W _ none hs (World.grownBy_alloc W o none) (fun r e => by cases e)) (fun m pre x W hj hl => anyDepth hd m (hY pre x W hj hl)) x d A m c (n - 1) [] W his (hb.trans (hW.mono hb.size)) hW.size h0 (by simp)
  have HP := Lib.hid hp
  clear hp his hb hbox hW hJ hJx hY h0
  refine callsIn_of_wp Tryz.func54 rfl hn1 ?_ hro
  simp only [Tryz.ntmps54, List.size_toArray, List.length_cons, List.length_nil, Nat.reduceAdd, Nat.reduceSub, Array.replicate_succ, Array.replicate_zero, List.push_toArray, List.append_toArray, List.nil_append, List.cons_append]
  gi_wp2_with fail
  refine HP.out.mono ?_; rintro e w2 (⟨rfl, ⟨zs, hz, hjz⟩, hkz⟩ | ⟨rfl, q, hq, hxq⟩)
  · rw [List.nil_append] at hjz
    have HO := Lib.hid (And.intro hz hjz)
    clear hz hjz hkz
    gi_wp2_with fail
    go_end0
    exact ⟨⟨_, rfl⟩, .inl ⟨zs, HO.out⟩⟩
  · rw [List.nil_append] at hxq
    have HO := Lib.hid (And.intro hq hxq)
    clear hq hxq
    gi_wp2_with fail
    go_end0
    exact ⟨⟨_, rfl⟩, .inr ⟨q, HO.out⟩⟩
theorem nodes_in (F : Fence) (n : Nat) (hf : F.fn 32) (hro : F.round = none) (d : Nd) (A : Option Addr) (m c : Nat) (w : World) :
    CallsIn F n Tryz.prog 32 #[.agg #[.int .i64 d.op, .int .i64 d.k, .int .i64 d.n, .string d.s, .string d.nm, .slice A m c]] w fun e w' => e = .returned (.func (.func 54) #[] #[.pointer (some ⟨w.heap.size, 0, none⟩)]) ∧ w' = w.alloc (.cells #[.int .i64 d.op, .int .i64 d.k, .int .i64 d.n, .string d.s, .string d.nm, .slice A m c] 26) := by
  refine callsIn_of_wp Tryz.func32 rfl hf ?_ hro
  simp only [Tryz.ntmps32, List.size_toArray, List.length_cons, List.length_nil, Nat.reduceAdd, Nat.reduceSub, Array.replicate_succ, Array.replicate_zero, List.push_toArray, List.append_toArray, List.nil_append, List.cons_append]
  gi_wp2
  go_ret
  exact ⟨rfl, rfl⟩
end Go.Proofs.YtehkebncdahmcaaGreatDoor.ExV
