/- The names of a formula's references, in preorder: names.visit, names.refs. Contract of names.Has. -/
import Derived.Test.YtdlfhldboagbeaaGreatDoorExCheck
import Derived.Test.YtdlfhldboagbeaaGreatDoorMaths
import Derived.Test.YtdlfhldboagbeaaGreatDoorNmPut
import Derived.RangeFuncBox
namespace Go.Proofs.YtdlfhldboagbeaaGreatDoor.NmV
open Go.RowKit Go.Shelf
open ExM NmM Kit ExL ExV
set_option linter.unusedVariables false
attribute [local go_sem] Oper.semAt_some

/-- A name as it is handed out. -/
abbrev Nm := { s : ByteArray // s.size ≤ maxLen }
def encs (x : Nm) : Array Value := #[.string x.1]
def bare (l : List Nm) : List ByteArray := l.map Subtype.val
theorem bare_append (l m : List Nm) : bare (l ++ m) = bare l ++ bare m := List.map_append
theorem bare_len (l : List Nm) : (bare l).length = l.length := List.length_map _

def VOut (w0 : World) (n₁ : Nat) (J Jx : List Nm → World → Prop) (pre : List Nm) (P : List ByteArray) (W : World) (e : Ending) (W' : World) : Prop :=
  (e = .returned (.bool true) ∧ (∃ ys : List Nm, bare ys = P ∧ J (pre ++ ys) W') ∧ Kp w0.heap.size n₁ W W') ∨ (e = .returned (.bool false) ∧ ∃ q : List Nm, bare q <+: P ∧ Jx (pre ++ q) W')
structure VInv (w0 : World) (n₁ : Nat) (J : List Nm → World → Prop) (pre : List Nm) (P : List ByteArray) (W : World) (ys : List Nm) (wr : World) : Prop where
  is : bare ys = P
  j : J (pre ++ ys) wr
  kp : Kp w0.heap.size n₁ W wr
  below : Below w0.heap.size w0 wr
  le : n₁ ≤ wr.heap.size
theorem VInv.step {w0 : World} {n₁ : Nat} {J : List Nm → World → Prop} {pre : List Nm} {p0 : List ByteArray} {l : List Ex} {k : Nat} {W wr w2 : World} {ys zs : List Nm} {o : Obj} (h : VInv w0 n₁ J pre (p0 ++ refsL (l.take k)) W ys wr) (hk : k < l.length)
    (hz : bare zs = Ex.refs l[k]) (hj : J (pre ++ ys ++ zs) w2) (hp : Kp w0.heap.size n₁ (wr.alloc o) w2) : VInv w0 n₁ J pre (p0 ++ refsL (l.take (k + 1))) W (ys ++ zs) w2 := by
  have hp2 : Kp w0.heap.size n₁ wr w2 := (Kp.alloc o h.below.size).trans hp
  exact ⟨by rw [bare_append, h.is, hz, refsL_at l k hk, List.append_assoc], by rw [← List.append_assoc]; exact hj, h.kp.trans hp2, h.below.trans hp2.below, by have := hp2.below.size; have := h.le; omega⟩

set_option maxRecDepth 100000 in
set_option maxHeartbeats 2000000 in
theorem visit_in (F : Fence) (hd : F.depth = none) (hv : F.fn 115) (hro : F.round = none) (l n₁ N : Nat) (w0 : World) (J Jx : List Nm → World → Prop)
    (hJ : ∀ s W o, J s W → J s (W.alloc o))
    (hY : ∀ m pre (x : Nm) W, J pre W → pre.length < N → YieldAt F m Tryz.prog l (encs x) W fun e W' => (e = .returned (.bool true) ∧ J (pre ++ [x]) W' ∧ Kp w0.heap.size n₁ W W') ∨ (e = .returned (.bool false) ∧ Jx (pre ++ [x]) W')) :
    ∀ (x : Ex) (d : Nd) (A : Option Addr) (m c : Nat) (n : Nat) (pre : List Nm) (W : World), Is w0 x d A m → Below w0.heap.size w0 W → n₁ ≤ W.heap.size → J pre W → pre.length + (Ex.refs x).length ≤ N →
      CallsIn F n Tryz.prog 115 #[.agg #[.int .i64 d.op, .int .i64 d.k, .int .i64 d.n, .string d.s, .string d.nm, .slice A m c], .func (.yield l) #[] #[]] W (VOut w0 n₁ J Jx pre (Ex.refs x) W) := by
  refine Ex.ind fun d l' ih => ?_
  intro d' A m c n pre W his hB hn hj hN
  rw [is_mk] at his
  obtain ⟨rfl, rfl, ⟨hm, hs1, hs2⟩, his⟩ := his
  have hdd : ∀ k : Nat, (F.depth.isSome = true → 1 ≤ k) := fun k h => by rw [hd] at h; cases h
  obtain ⟨p0, hp0⟩ : ∃ p0, (if d'.op = 2 then [d'.nm] else []) = p0 := ⟨_, rfl⟩
  have hrf : Ex.refs (.mk d' l') = p0 ++ refsL l' := by rw [refs_mk, hp0]
  rw [hrf] at hN ⊢
  rw [List.length_append] at hN
  have hj1 := hJ _ _ (.cells #[.int .i64 d'.op, .int .i64 d'.k, .int .i64 d'.n, .string d'.s, .string d'.nm, .slice A l'.length c] 48) hj
  have HS := Lib.hid his
  have HI := Lib.hid ih
  have HN := Lib.hid hN
  clear his ih hrf hN
  unfold maxLen at hm
  by_cases hop : d'.op = 2
  · rw [if_pos hop] at hp0
    have hy1 := hY (n - 1) pre ⟨d'.nm, hs2⟩ _ hj1 (by have := HN.out; rw [← hp0] at this; simp at this; omega)
    obtain ⟨fn, tmps, assign, body, hy, hR⟩ := hy1
    unfold encs at hy
    dsimp only at hy
    have HR := Lib.hid hR
    have HP := Lib.hid hp0
    have t0 : (d'.op == 2) = true := beq_iff_eq.2 hop
    clear hj hj1 hR hp0 hop
    refine callsIn_of_wp Tryz.func115 rfl hv ?_ hro
    simp only [Tryz.ntmps115, List.size_toArray, List.length_cons, List.length_nil, Nat.reduceAdd, Nat.reduceSub, Array.replicate_succ, Array.replicate_zero, List.push_toArray, List.append_toArray, List.nil_append, List.cons_append]
    gi_wp2_with fail
    refine HR.out.mono ?_; clear HR hy; rintro e W1 (⟨rfl, hj1, hk1⟩ | ⟨rfl, hx1⟩)
    · have hc5 : W1.cell? ⟨W.heap.size, 5, none⟩ = some (.slice A l'.length c) := by rw [hk1.box hn]; rfl
      have hkW : Kp w0.heap.size n₁ W W1 := (Kp.alloc _ hB.size).trans hk1
      have hI0 : VInv w0 n₁ J pre (p0 ++ refsL (l'.take 0)) W [⟨d'.nm, hs2⟩] W1 := ⟨by rw [← HP.out]; simp [bare, refsL_nil], hj1, hkW, hB.trans hkW.below, by have := hkW.below.size; omega⟩
      have HI0 := Lib.hid hI0
      clear hI0 hkW hk1 hj1 t0
      gi_wp2_with fail
      gi_loopw [6, 20] (fun _ i wr => ∃ (k : Nat) (ys : List Nm), i = .int .i64 k ∧ k ≤ l'.length ∧ VInv w0 n₁ J pre (p0 ++ refsL (l'.take k)) W ys wr) (fun _ i _ => l'.length - (intOf i).toNat)
      case atStart => exact ⟨0, _, rfl, Nat.zero_le _, HI0.out⟩
      case round =>
        obtain ⟨k, ys, rfl, hk, hV⟩ := hrel
        have HV := Lib.hid hV
        clear hV
        by_cases hlt : k < l'.length
        · obtain ⟨a, d2, B, m2, c2, rfl, hat, hi⟩ := HS.out k hlt
          obtain ⟨h0, h1, h2, h3, h4, h5⟩ := hat.below HV.out.below
          have hVb := HV.out.below
          have hVn := HV.out.le
          have hcx := HI.out _ (List.getElem_mem hlt) d2 B m2 c2 (n - 1) (pre ++ ys) (wr.alloc (.cells #[.int .i64 d2.op, .int .i64 d2.k, .int .i64 d2.n, .string d2.s, .string d2.nm, .slice B m2 c2] 48)) hi (hVb.trans ((b_new _ _).mono hVb.size)) (by simp; omega) (hJ _ _ _ HV.out.j) (by
            have e1 : ys.length = (p0 ++ refsL (l'.take k)).length := by rw [← HV.out.is, bare_len]
            have e2 := congrArg List.length (refsL_at l' k hlt)
            have e3 := refsL_take l' (k + 1)
            have e4 := HN.out
            rw [List.length_append] at e1 e2
            rw [List.length_append, e1]; omega)
          have HC := Lib.hid hcx
          clear hcx hat hi hVb
          gi_wp2_with fail
          refine HC.out.mono ?_; rintro e w2 (⟨rfl, ⟨zs, hz, hjz⟩, hkz⟩ | ⟨rfl, q, hq, hxq⟩)
          · have hN : VInv w0 n₁ J pre (p0 ++ refsL (l'.take (k + 1))) W (ys ++ zs) w2 := HV.out.step hlt hz hjz hkz
            have HN2 := Lib.hid hN
            clear hN hz hjz hkz
            gi_wp2_with fail
            go_roundw
            case rel => exact ⟨k + 1, _, by go_num, by omega, HN2.out⟩
            case measure => simp [intOf]; omega
          · have hO : VOut w0 n₁ J Jx pre (p0 ++ refsL l') W (.returned (.bool false)) w2 := .inr ⟨rfl, ys ++ q, by
              rw [bare_append, HV.out.is, List.append_assoc]
              exact (List.prefix_append_right_inj _).2 (refs_prefix l' k hlt hq), by rw [← List.append_assoc]; exact hxq⟩
            have HO := Lib.hid hO
            clear hO hq hxq
            gi_wp2_with fail
            go_ret
            exact HO.out
        · have hkl : k = l'.length := by omega
          have hO : VOut w0 n₁ J Jx pre (p0 ++ refsL l') W (.returned (.bool true)) wr := .inl ⟨rfl, ⟨ys, by rw [HV.out.is, hkl, List.take_length], HV.out.j⟩, HV.out.kp⟩
          have HO := Lib.hid hO
          clear hO hkl
          gi_wp2_with fail
          go_ret
          exact HO.out
    · have hO : VOut w0 n₁ J Jx pre (p0 ++ refsL l') W (.returned (.bool false)) W1 := .inr ⟨rfl, [⟨d'.nm, hs2⟩], by rw [← HP.out]; exact (List.prefix_cons_inj _).2 List.nil_prefix, hx1⟩
      have HO := Lib.hid hO
      clear hO hx1
      gi_wp2_with fail
      go_ret
      exact HO.out
  · rw [if_neg hop] at hp0
    have hkW : Kp w0.heap.size n₁ W (W.alloc (.cells #[.int .i64 d'.op, .int .i64 d'.k, .int .i64 d'.n, .string d'.s, .string d'.nm, .slice A l'.length c] 48)) := Kp.alloc _ hB.size
    have hI0 : VInv w0 n₁ J pre (p0 ++ refsL (l'.take 0)) W [] (W.alloc (.cells #[.int .i64 d'.op, .int .i64 d'.k, .int .i64 d'.n, .string d'.s, .string d'.nm, .slice A l'.length c] 48)) := ⟨by rw [← hp0]; simp [bare, refsL_nil], by rw [List.append_nil]; exact hj1, hkW, hB.trans hkW.below, by have := hkW.below.size; omega⟩
    have HI0 := Lib.hid hI0
    have t0 : (d'.op == 2) = false := beq_eq_false_iff_ne.2 hop
    clear hj hj1 hp0 hop hI0 hkW
    refine callsIn_of_wp Tryz.func115 rfl hv ?_ hro
    simp only [Tryz.ntmps115, List.size_toArray, List.length_cons, List.length_nil, Nat.reduceAdd, Nat.reduceSub, Array.replicate_succ, Array.replicate_zero, List.push_toArray, List.append_toArray, List.nil_append, List.cons_append]
    gi_wp2_with fail
    refine ⟨fun _ h => (by cases h), ?_⟩
    gi_wp2_with fail
    gi_loopw [6, 20] (fun _ i wr => ∃ (k : Nat) (ys : List Nm), i = .int .i64 k ∧ k ≤ l'.length ∧ VInv w0 n₁ J pre (p0 ++ refsL (l'.take k)) W ys wr) (fun _ i _ => l'.length - (intOf i).toNat)
    case atStart => exact ⟨0, _, rfl, Nat.zero_le _, HI0.out⟩
    case round =>
      obtain ⟨k, ys, rfl, hk, hV⟩ := hrel
      have HV := Lib.hid hV
      clear hV
      by_cases hlt : k < l'.length
      · obtain ⟨a, d2, B, m2, c2, rfl, hat, hi⟩ := HS.out k hlt
        obtain ⟨h0, h1, h2, h3, h4, h5⟩ := hat.below HV.out.below
        have hVb := HV.out.below
        have hVn := HV.out.le
        have hcx := HI.out _ (List.getElem_mem hlt) d2 B m2 c2 (n - 1) (pre ++ ys) (wr.alloc (.cells #[.int .i64 d2.op, .int .i64 d2.k, .int .i64 d2.n, .string d2.s, .string d2.nm, .slice B m2 c2] 48)) hi (hVb.trans ((b_new _ _).mono hVb.size)) (by simp; omega) (hJ _ _ _ HV.out.j) (by
          have e1 : ys.length = (p0 ++ refsL (l'.take k)).length := by rw [← HV.out.is, bare_len]
          have e2 := congrArg List.length (refsL_at l' k hlt)
          have e3 := refsL_take l' (k + 1)
          have e4 := HN.out
          rw [List.length_append] at e1 e2
          rw [List.length_append, e1]; omega)
        have HC := Lib.hid hcx
        clear hcx hat hi hVb
        gi_wp2_with fail
        refine HC.out.mono ?_; rintro e w2 (⟨rfl, ⟨zs, hz, hjz⟩, hkz⟩ | ⟨rfl, q, hq, hxq⟩)
        · have hN : VInv w0 n₁ J pre (p0 ++ refsL (l'.take (k + 1))) W (ys ++ zs) w2 := HV.out.step hlt hz hjz hkz
          have HN2 := Lib.hid hN
          clear hN hz hjz hkz
          gi_wp2_with fail
          go_roundw
          case rel => exact ⟨k + 1, _, by go_num, by omega, HN2.out⟩
          case measure => simp [intOf]; omega
        · have hO : VOut w0 n₁ J Jx pre (p0 ++ refsL l') W (.returned (.bool false)) w2 := .inr ⟨rfl, ys ++ q, by
            rw [bare_append, HV.out.is, List.append_assoc]
            exact (List.prefix_append_right_inj _).2 (refs_prefix l' k hlt hq), by rw [← List.append_assoc]; exact hxq⟩
          have HO := Lib.hid hO
          clear hO hq hxq
          gi_wp2_with fail
          go_ret
          exact HO.out
      · have hkl : k = l'.length := by omega
        have hO : VOut w0 n₁ J Jx pre (p0 ++ refsL l') W (.returned (.bool true)) wr := .inl ⟨rfl, ⟨ys, by rw [HV.out.is, hkl, List.take_length], HV.out.j⟩, HV.out.kp⟩
        have HO := Lib.hid hO
        clear hO hkl
        gi_wp2_with fail
        go_ret
        exact HO.out

set_option maxRecDepth 100000 in
set_option maxHeartbeats 1000000 in
theorem refs_stops (F : Fence) (hd : F.depth = none) (hn1 : F.fn 114) (hv : F.fn 115) (hro : F.round = none) (n Bx : Nat) (w0 w : World) (x : Ex) (d : Nd) (A : Option Addr) (m c : Nat)
    (his : Is w0 x d A m) (hb : Below w0.heap.size w0 w) (hbox : Box w Bx d A m c) :
    SeqStopsK F n Tryz.prog 114 #[.pointer (some ⟨Bx, 0, none⟩)] encs (Kp w0.heap.size w.heap.size) (fun ys => bare ys = Ex.refs x) (fun q => bare q <+: Ex.refs x) (Ex.refs x).length w := by
  intro l J Jx W hW hJ hJx hY h0
  have hdd : ∀ k : Nat, (F.depth.isSome = true → 1 ≤ k) := fun k h => by rw [hd] at h; cases h
  obtain ⟨b0, b1, b2, b3, b4, b5⟩ := (hbox.below hW).cells
  have hp := visit_in F hd hv hro l w.heap.size (Ex.refs x).length w0 J Jx (fun s W o hs => hJ s W _ none hs (World.grownBy_alloc W o none) (fun r e => by cases e)) (fun m pre x W hj hl => anyDepth hd m (hY pre x W hj hl)) x d A m c (n - 1) [] W his (hb.trans (hW.mono hb.size)) hW.size h0 (by simp)
  have HP := Lib.hid hp
  clear hp his hb hbox hW hJ hJx hY h0
  refine callsIn_of_wp Tryz.func114 rfl hn1 ?_ hro
  simp only [Tryz.ntmps114, List.size_toArray, List.length_cons, List.length_nil, Nat.reduceAdd, Nat.reduceSub, Array.replicate_succ, Array.replicate_zero, List.push_toArray, List.append_toArray, List.nil_append, List.cons_append]
  gi_wp2_with fail
  refine HP.out.mono ?_; rintro e w2 (⟨rfl, ⟨zs, hz, hjz⟩, hkz⟩ | ⟨rfl, q, hq, hxq⟩)
  · rw [List.nil_append] at hjz
    have HO := Lib.hid (And.intro hz hjz)
    clear hz hjz hkz
    gi_wp2_with fail
    go_end0
    exact ⟨⟨_, rfl⟩, .inl ⟨zs, HO.out⟩⟩
  · rw [List.nil_append] at hxq
    have HO := Lib.hid (And.intro hq hxq)
    clear hq hxq
    gi_wp2_with fail
    go_end0
    exact ⟨⟨_, rfl⟩, .inr ⟨q, HO.out⟩⟩
theorem refs_in (F : Fence) (n : Nat) (hf : F.fn 100) (hro : F.round = none) (d : Nd) (A : Option Addr) (m c : Nat) (w : World) :
    CallsIn F n Tryz.prog 100 #[.agg #[.int .i64 d.op, .int .i64 d.k, .int .i64 d.n, .string d.s, .string d.nm, .slice A m c]] w fun e w' => e = .returned (.func (.func 114) #[] #[.pointer (some ⟨w.heap.size, 0, none⟩)]) ∧ w' = w.alloc (.cells #[.int .i64 d.op, .int .i64 d.k, .int .i64 d.n, .string d.s, .string d.nm, .slice A m c] 48) := by
  refine callsIn_of_wp Tryz.func100 rfl hf ?_ hro
  simp only [Tryz.ntmps100, List.size_toArray, List.length_cons, List.length_nil, Nat.reduceAdd, Nat.reduceSub, Array.replicate_succ, Array.replicate_zero, List.push_toArray, List.append_toArray, List.nil_append, List.cons_append]
  gi_wp2
  go_ret
  exact ⟨rfl, rfl⟩
end Go.Proofs.YtdlfhldboagbeaaGreatDoor.NmV
namespace Go.Proofs.YtdlfhldboagbeaaGreatDoor.NmH
open Go.RowKit Go.Shelf
open ExM NmM Kit ExL ExV NmV
set_option linter.unusedVariables false
attribute [local go_sem] Oper.semAt_some

theorem hasB_snoc (l : List ByteArray) (t s : ByteArray) : hasB (l ++ [t]) s = (hasB l s || decide (t = s)) := by rw [hasB_append, hasB_cons, hasB_nil, Bool.or_false]
theorem box1 (w : World) (o0 o1 o2 o3 : Obj) : ((((w.alloc o0).alloc o1).alloc o2).alloc o3).heap[w.heap.size]? = some o0 ∧ ((((w.alloc o0).alloc o1).alloc o2).alloc o3).heap[w.heap.size + 1]? = some o1 ∧ ((((w.alloc o0).alloc o1).alloc o2).alloc o3).heap[w.heap.size + 1 + 1]? = some o2 ∧ ((((w.alloc o0).alloc o1).alloc o2).alloc o3).heap[w.heap.size + 1 + 1 + 1]? = some o3 := NmP.box2 w o0 o1 o2 o3

end Go.Proofs.YtdlfhldboagbeaaGreatDoor.NmH
