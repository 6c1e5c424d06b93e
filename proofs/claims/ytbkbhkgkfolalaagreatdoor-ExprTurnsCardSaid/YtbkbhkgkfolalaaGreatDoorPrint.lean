/- Contracts of expr.Print: operand, listed, printed. -/
import Derived.Test.YtbkbhkgkfolalaaGreatDoorExCheck
import Derived.Test.YtbkbhkgkfolalaaGreatDoorGenLeaf
import Derived.Test.YtbkbhkgkfolalaaGreatDoorPrintMath
import Derived.Test.YtbkbhkgkfolalaaGreatDoorShow
import Derived.Test.YtbkbhkgkfolalaaGreatDoorShelf
import Derived.Deep.RegionHeld3
namespace Go.Proofs.YtbkbhkgkfolalaaGreatDoor.Prn
open Go.RowKit
open ValM LexM ExM ShowM PrM Kit ExL ExN ExV GenL
set_option linter.unusedVariables false

/-- What both tables give. -/
structure Vars (w : World) : Prop where
  tab : Tab w
  pow : Show.Pow w
theorem Vars.below {w w' : World} (h : Vars w) (hb : Below w.heap.size w w') : Vars w' := ⟨h.tab.below hb, h.pow.below hb⟩
def PrAt (x : Ex) : Prop := ∀ (d : Nd) (A : Option Addr) (n c : Nat) (w : World), Is w x d A n → Vars w →
  Calls Tryz.prog 15 #[.agg #[.int .i64 d.op, .int .i64 d.k, .int .i64 d.n, .string d.s, .string d.nm, .slice A n c]] w fun e w' => e = .returned (.string ⟨(Ex.txt x).toArray⟩) ∧ Below w.heap.size w w'
theorem is_d {w : World} {x : Ex} {d : Nd} {A : Option Addr} {n : Nat} (h : Is w x d A n) : x.d = d := by
  cases x; rw [is_mk] at h; exact h.1.symm
theorem rw_rwF (j : Nat) : rw_ j = rwF (j : Int) := rfl
theorem str_inj {a b : ByteArray} (h : a.data.toList = b.data.toList) : Ending.returned (.string a) = .returned (.string b) := by rw [show a = b from WideShapes.bytes_inj h]

set_option maxHeartbeats 1000000 in
theorem operand_any (x : Ex) (hx : PrAt x) (ho : 1 ≤ x.d.op ∧ x.d.op ≤ 18) (hsz : (Ex.txt x).length ≤ 100000) (p : Int) (d : Nd) (A : Option Addr) (n c : Nat) (w : World) (his : Is w x d A n) (hv : Vars w) :
    Calls Tryz.prog 28 #[.agg #[.int .i64 d.op, .int .i64 d.k, .int .i64 d.n, .string d.s, .string d.nm, .slice A n c], .int .i64 p] w fun e w' => e = .returned (.string ⟨(br p (x.d.op, Ex.txt x)).toArray⟩) ∧ Below w.heap.size w w' := by
  have hd := is_d his
  rw [hd] at ho ⊢
  obtain ⟨j, hj⟩ : ∃ j : Nat, d.op = j := ⟨d.op.toNat, by omega⟩
  have hj1 : j < 19 := by omega
  have hcell := (hv.tab.cells j hj1).2.1
  obtain ⟨q, hq⟩ : ∃ q, precF d.op = q := ⟨_, rfl⟩
  have hq2 : (rw_ j).2.1 = q := by rw [rw_rwF, ← hj]; exact hq
  rw [hq2] at hcell
  have hb0 := b_new w (.cells #[.int .i64 d.op, .int .i64 d.k, .int .i64 d.n, .string d.s, .string d.nm, .slice A n c] 27)
  have hc0 : (w.alloc (.cells #[.int .i64 d.op, .int .i64 d.k, .int .i64 d.n, .string d.s, .string d.nm, .slice A n c] 27)).cell? ⟨0, j * 3 + 1, none⟩ = some (.int .i64 q) := by
    rw [World.cell?_alloc_lt _ _ _ (cell_lt' hcell)]; exact hcell
  have hc := hx d A n c _ (his.below hb0) (hv.below hb0)
  obtain ⟨t, ht⟩ : ∃ t : ByteArray, t = ⟨(Ex.txt x).toArray⟩ := ⟨_, rfl⟩
  have htl : t.data.toList = Ex.txt x := by rw [ht]
  have hts : t.size ≤ 100000 := by show t.data.toList.length ≤ _; rw [htl]; exact hsz
  rw [← ht] at hc
  have HC := Lib.hid hc
  have HT := Lib.hid htl
  have i0 : 0 ≤ d.op := by omega
  have i1 : d.op < 19 := by omega
  have i2 : d.op.toNat = j := by omega
  have HQ := Lib.hid hq
  clear hc ht htl his hv hcell hb0 hq2 hd hx hj hq
  by_cases hlt : q < p
  · have e : br p (d.op, Ex.txt x) = 40 :: (Ex.txt x ++ [41]) := by unfold br; rw [HQ.out, if_pos hlt]
    rw [e]
    clear e
    go_enter Tryz.func28, Tryz.ntmps28
    go_wp2_with fail
    refine HC.out.mono ?_; rintro e w1 ⟨rfl, hb1⟩
    go_wp2_with fail
    go_ret
    exact ⟨str_inj (by simp [HT.out]), b_then hb1⟩
  · have e : br p (d.op, Ex.txt x) = Ex.txt x := by unfold br; rw [HQ.out, if_neg hlt]
    rw [e]
    clear e
    go_enter Tryz.func28, Tryz.ntmps28
    go_wp2_with fail
    refine HC.out.mono ?_; rintro e w1 ⟨rfl, hb1⟩
    go_wp2_with fail
    go_ret
    exact ⟨str_inj HT.out, b_then hb1⟩

/-! ### listed -/
def strB (x : Ex) : ByteArray := ⟨(Ex.txt x).toArray⟩
theorem strB_list (x : Ex) : (strB x).data.toList = Ex.txt x := rfl
theorem join_commas : ∀ ls : List (List UInt8), Lib.join ls [44, 32] = commas ls
  | [] => rfl
  | [a] => by rw [Lib.join_one]; rfl
  | a :: b :: r => by
    have := join_commas (b :: r)
    rw [Lib.join_cons] at this ⊢
    simp only [Lib.joinTail, List.map_cons, List.flatten_cons, commas] at this ⊢
    rw [← this]; simp
theorem sum_le {l : List Ex} (h : ∀ x ∈ l, (Ex.txt x).length ≤ 100000) : ((l.map Ex.txt).map List.length).sum ≤ l.length * 100000 := by
  induction l with
  | nil => simp
  | cons x l ih =>
    have h1 := h x (by simp)
    have h2 := ih fun y hy => h y (by simp [hy])
    simp only [List.map_cons, List.sum_cons, List.length_cons] at h2 ⊢
    omega
structure SInv (w : World) (l : List Ex) (k : Nat) (v : Value) (wr : World) : Prop where
  le : k ≤ l.length
  own : wr.ownsRow w.heap.size 9 1 v k ((l.map fun x => Value.string (strB x)).take k)
  below : Below w.heap.size w wr
theorem SInv.step {w wr w1 w3 : World} {l : List Ex} {k : Nat} {v v' : Value} {o1 o2 : Obj} (h : SInv w l k v wr) (hk : k < l.length) (hb : Below (wr.alloc o1).heap.size (wr.alloc o1) w1)
    (ho : w3.ownsRow w.heap.size 9 1 v' (k + 1) ((l.map fun x => Value.string (strB x)).take k ++ [.string (strB l[k])])) (hg : (w1.alloc o2).grownBy w3 v.ownBlock) : SInv w l (k + 1) v' w3 := by
  have hs := h.below.size
  have hb1 : Below w.heap.size w w1 := h.below.trans ((b_then hb).mono hs)
  refine ⟨hk, ?_, (hb1.alloc hb1.size _).grown hg (by have := hb1.size; simp; omega) (fun g hg => (h.own.lt g hg).1)⟩
  rw [List.take_succ_eq_append_getElem (by simpa using hk), List.getElem_map]
  exact ho

set_option maxHeartbeats 2000000 in
set_option maxRecDepth 100000 in
theorem listed_any (l : List Ex) (hx : ∀ x ∈ l, PrAt x) (hsz : ∀ x ∈ l, (Ex.txt x).length ≤ 100000) (h0 : 0 < l.length) (h3 : l.length ≤ 3) (A : Option Addr) (c : Nat) (w : World)
    (hargs : ∀ (j : Nat) (h : j < l.length), ∃ a d B n c, A = some a ∧ At w (a.add (j * 6)) d B n c ∧ Is w l[j] d B n) (hv : Vars w) :
    Calls Tryz.prog 27 #[.slice A l.length c] w fun e w' => e = .returned (.string ⟨(commas (l.map Ex.txt)).toArray⟩) ∧ Below w.heap.size w w' := by
  obtain ⟨i0, hi, hz0, hz1, hz2⟩ := info_parts GenL.infoStr
  have hI0 : SInv w l 0 (.slice none 0 0) w := ⟨Nat.zero_le _, World.ownsRow_nil _ _ _ _, Below.refl _ _⟩
  have HI0 := Lib.hid hI0
  have HA := Lib.hid hargs
  have HV := Lib.hid hv
  have HX := Lib.hid hx
  have HS := Lib.hid hsz
  clear hI0 hargs hv hx hsz
  go_enter Tryz.func27, Tryz.ntmps27
  go_wp2_with fail
  go_loopw [3, 8] (fun v i wr => ∃ k : Nat, i = .int .i64 k ∧ SInv w l k v wr) (fun _ i _ => l.length - (intOf i).toNat)
  case atStart => exact ⟨0, rfl, HI0.out⟩
  case round =>
    obtain ⟨k, rfl, hI⟩ := hrel
    have hle := hI.le
    have HI := Lib.hid hI
    by_cases hlt : k < l.length
    · obtain ⟨a, d, B, m, cp, rfl, hat, his⟩ := HA.out k hlt
      obtain ⟨q0, q1, q2, q3, q4, q5⟩ := hat.below hI.below
      have hb1 := hI.below.trans ((b_new wr (.cells #[.int .i64 d.op, .int .i64 d.k, .int .i64 d.n, .string d.s, .string d.nm, .slice B m cp] 27)).mono hI.below.size)
      have hc := HX.out _ (List.getElem_mem hlt) d B m cp _ (his.below hb1) (HV.out.below hb1)
      obtain ⟨t, ht⟩ : ∃ t : ByteArray, t = strB l[k] := ⟨_, rfl⟩
      rw [show (⟨(Ex.txt l[k]).toArray⟩ : ByteArray) = t from ht.symm] at hc
      have HC := Lib.hid hc
      have HT := Lib.hid ht
      have hs := hI.below.size
      clear hc ht hat his hb1 hI
      go_wp2_with fail
      refine HC.out.mono ?_; rintro e w1 ⟨rfl, hb2⟩
      have hown := (own_below (HI.out.own.alloc (.cells #[.int .i64 d.op, .int .i64 d.k, .int .i64 d.n, .string d.s, .string d.nm, .slice B m cp] 27)) hb2).alloc (.cells #[.string t] 9)
      have hz9 : w.heap.size ≤ w1.heap.size := by have := hb2.size; simp at this; omega
      have HB2 := Lib.hid hb2
      clear hb2
      go_wp2_with (at_builtin; refine wpList_append_own _ rfl _ _ 96 rfl w.heap.size 9 i0 (.string ⟨#[]⟩) 1 16 Tryz.underlying96 hi hz0 hz1 hz2 rfl (by decide) _ _ _ rfl hown ⟨w1.heap.size, 0, none⟩ 1 1 [.string t] rfl rfl ?c1 ?c2 ?c3 ?c4 ?c5 ?_)
      case c1 =>
        intro j y hj
        match j, hj with
        | 0, hj => simp at hj; subst hj; simp [Addr.add]
        | j + 1, hj => simp at hj
      case c2 => intro y hy; simp at hy; subst hy; rfl
      case c3 => unfold maxLen; omega
      case c4 => omega
      case c5 => simp; omega
      intro v' w3 hown3 hgrow _
      rw [HT.out] at hown3
      have hN := HI.out.step hlt HB2.out hown3 hgrow
      have HN := Lib.hid hN
      clear hN hown3 hgrow hown
      go_wp2
      go_roundw
      case rel => exact ⟨k + 1, by go_num, HN.out⟩
      case measure => simp [intOf]; omega
    · have hkl : k = l.length := by omega
      subst hkl
      have hown := hI.own
      rw [List.take_of_length_le (by simp)] at hown
      obtain ⟨g, cap, rfl, _, hgl, hlc, hcm, hcl⟩ := own_form hown h0
      have hlen : (Lib.join ((l.map strB).map (·.data.toList)) (⟨#[44, 32]⟩ : ByteArray).data.toList).length ≤ 140737488355328 := by
        rw [show (l.map strB).map (·.data.toList) = l.map Ex.txt by rw [List.map_map]; rfl, show (⟨#[44, 32]⟩ : ByteArray).data.toList = [44, 32] from rfl, join_commas]
        have h1 := commas_len (l.map Ex.txt)
        have h2 := sum_le HS.out
        rw [List.length_map] at h1
        omega
      have hcells : ∀ (j : Nat) x, (l.map strB)[j]? = some x → wr.cell? ⟨g, 0 + j, none⟩ = some (.string x) := fun j x hjx => by
        have hjl : j < l.length := by
          have := (List.getElem?_eq_some_iff.1 hjx).1
          simpa using this
        rw [Nat.zero_add, hcl j (by omega)]
        rw [List.getElem?_map, List.getElem?_eq_getElem hjl] at hjx ⊢
        simp at hjx ⊢; exact hjx
      have hj := Tryz.strings_Join g 0 cap (l.map strB) ⟨#[44, 32]⟩ wr hcells hgl (by simp; omega) (by simpa using hlc) hlen
      rw [List.length_map, show (l.map strB).map (·.data.toList) = l.map Ex.txt by rw [List.map_map]; rfl, show (⟨#[44, 32]⟩ : ByteArray).data.toList = [44, 32] from rfl, join_commas] at hj
      have HJ := Lib.hid hj
      clear hj hown hcl hI hcells hlen
      go_wp2_with fail
      refine HJ.out.mono ?_; rintro e w1 ⟨rfl, hb2⟩
      go_wp2_with fail
      go_ret
      exact ⟨rfl, HI.out.below.trans (hb2.mono HI.out.below.size)⟩

/-! ### leftPrecedence, printed -/
theorem left_any (sg : ByteArray) (q ar : Int) (w : World) (h0 : 0 ≤ q) (h6 : q ≤ 6) :
    Calls Tryz.prog 29 #[.agg #[.string sg, .int .i64 q, .int .i64 ar]] w fun e w' => e = .returned (.int .i64 (if q = 2 then q + 1 else q)) ∧ Below w.heap.size w w' := by
  by_cases h : q = 2
  · subst h
    go_enter Tryz.func29, Tryz.ntmps29
    go_wp2
    go_ret
    exact ⟨rfl, b_new _ _⟩
  · rw [if_neg h]
    have t1 : (q == 2) = false := beq_eq_false_iff_ne.2 h
    clear h
    go_enter Tryz.func29, Tryz.ntmps29
    go_wp2
    go_ret
    exact ⟨rfl, b_new _ _⟩
theorem prec_bd (op : Int) : 0 ≤ precF op ∧ precF op ≤ 6 := by
  unfold precF rwF
  rcases Nat.lt_or_ge op.toNat 19 with h | h
  · obtain h | h | h | h | h | h | h | h | h | h | h | h | h | h | h | h | h | h | h : op.toNat = 0 ∨ op.toNat = 1 ∨ op.toNat = 2 ∨ op.toNat = 3 ∨ op.toNat = 4 ∨ op.toNat = 5 ∨ op.toNat = 6 ∨ op.toNat = 7 ∨ op.toNat = 8 ∨ op.toNat = 9 ∨ op.toNat = 10 ∨ op.toNat = 11 ∨ op.toNat = 12 ∨ op.toNat = 13 ∨ op.toNat = 14 ∨ op.toNat = 15 ∨ op.toNat = 16 ∨ op.toNat = 17 ∨ op.toNat = 18 := by omega
    all_goals rw [h]; decide
  · rw [List.getD_eq_getElem?_getD, List.getElem?_eq_none (by show NotTab.rows.length ≤ _; exact h)]; decide
theorem nodeE_parts {d : Nd} {m : Nat} (h : nodeE d m = 0) : 1 ≤ d.op ∧ d.op ≤ 18 ∧ m = arity d.op ∧ vOk d = true ∧ nmOk d = true := by
  unfold nodeE at h
  by_cases hr : d.op < 1 ∨ 18 < d.op
  · rw [if_pos hr] at h; exact absurd h (by decide)
  · rw [if_neg hr] at h
    by_cases hg : m = arity d.op ∧ vOk d = true ∧ nmOk d = true
    · exact ⟨by omega, by omega, hg⟩
    · rw [if_neg hg] at h; exact absurd h (by decide)
theorem okN_op {x : Ex} (h : x.okN) : 1 ≤ x.d.op ∧ x.d.op ≤ 18 := by
  obtain ⟨d, l⟩ := x
  have := nodeE_parts ((okN_mk d l).1 h).1
  exact ⟨this.1, this.2.1⟩

end Go.Proofs.YtbkbhkgkfolalaaGreatDoor.Prn
