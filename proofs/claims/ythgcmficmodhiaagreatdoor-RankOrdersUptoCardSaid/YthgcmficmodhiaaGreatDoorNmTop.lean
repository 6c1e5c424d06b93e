/- The reference's asked, holds, NamesHas. The reference's rising: each once, the least one first. The reference's NamesOf; two lists of the same strings. -/
import Derived.Test.YthgcmficmodhiaaGreatDoorNmPut
import Derived.Laws.AppendOwnNone
import Derived.Test.YthgcmficmodhiaaGreatDoorNmOf
import Derived.Test.YthgcmficmodhiaaGreatDoorBase
import Derived.Deep.AppendLies
import Derived.Deep.RegionHeld3
import Derived.Deep.QuietTactic
import Derived.Deep.RegionWith
import Derived.Deep.RegionLaw
import Derived.Deep.DrawnRows
import Derived.BigQuiet
import Derived.Sort.EncStr
import Derived.Test.YthgcmficmodhiaaGreatDoorExRef
import Derived.RegionTactic
namespace Go.Proofs.YthgcmficmodhiaaGreatDoor.NmA
open Go.RowKit
open ExM NmM Kit ExL ExP ExV NmC NmP NmR
set_option linter.unusedVariables false

def strV (L : List ByteArray) : List Value := L.map Value.string
theorem strV_len (L : List ByteArray) : (strV L).length = L.length := List.length_map _
theorem strV_append (L M : List ByteArray) : strV (L ++ M) = strV L ++ strV M := List.map_append
theorem strV_one {L : List ByteArray} : ∀ u ∈ strV L, u.oneCell' = true := fun u hu => by
  obtain ⟨s, _, rfl⟩ := List.mem_map.1 hu; rfl
theorem infoStr : (Tryz.prog.info? 9).map (fun i => (i.zero, i.size, i.bytes)) = some (some (.string ⟨#[]⟩), 1, 16) := by kernel_rfl
/-- A list of strings that a call has made. -/
def AskOut (L : List ByteArray) (w : World) (e : Ending) (w' : World) : Prop :=
  ∃ v : Value, e = .returned v ∧ w'.ownsRow w.heap.size 9 1 v L.length (strV L) ∧ Below w.heap.size w w'
structure AInv (w : World) (L : List ByteArray) (v : Value) (wr : World) : Prop where
  own : wr.ownsRow (w.heap.size + 1) 9 1 v L.length (strV L)
  below : Below w.heap.size w wr
  lt : w.heap.size < wr.heap.size
theorem own_src {w : World} {base : Nat} {v : Value} {L : List ByteArray} (h : w.ownsRow base 9 1 v L.length (strV L)) : (v = .slice none 0 0 ∧ L = []) ∨ ∃ g cap, v = .slice (some ⟨g, 0, none⟩) L.length cap ∧ ∀ (j : Nat) (u : Value), (strV L)[j]? = some u → w.cell? ((⟨g, 0, none⟩ : Addr).add j) = some u := by
  rcases h.2 with ⟨h1, h2⟩ | ⟨g, cap, cur, h1, _⟩
  · exact .inl ⟨h1, List.eq_nil_of_length_eq_zero h2⟩
  · subst h1
    refine .inr ⟨g, cap, rfl, fun j u hj => ?_⟩
    have hl := (List.getElem?_eq_some_iff.1 hj).1
    rw [strV_len] at hl
    rw [ExP.add_block, h.cellAt j (by omega), hj]

set_option maxHeartbeats 4000000 in
set_option maxRecDepth 100000 in
theorem asked_any : ∀ (x : Ex) (d : Nd) (A : Option Addr) (m c : Nat) (w : World), x.nodes ≤ 1048576 → Is w x d A m →
    Calls Tryz.prog 42 #[.agg #[.int .i64 d.op, .int .i64 d.k, .int .i64 d.n, .string d.s, .string d.nm, .slice A m c]] w (AskOut (Ex.refs x) w) := by
  obtain ⟨i0, hi, hz0, hz1, hz2⟩ := info_parts infoStr
  refine Ex.ind fun d l ih => ?_
  intro d' A m c w hx his
  rw [is_mk] at his
  obtain ⟨rfl, rfl, ⟨hm, hs1, hs2⟩, his⟩ := his
  have hrn := refs_len (Ex.mk d' l)
  obtain ⟨p0, hp0⟩ : ∃ p0, (if d'.op = 2 then [d'.nm] else []) = p0 := ⟨_, rfl⟩
  have hrf : Ex.refs (.mk d' l) = p0 ++ refsL l := by rw [refs_mk, hp0]
  rw [hrf] at hrn ⊢
  rw [List.length_append] at hrn
  rw [nodes_mk] at hx hrn
  have hlen := len_nodesL l
  have hpl : p0.length ≤ 1 := by rw [← hp0]; split <;> simp
  have HS := Lib.hid his
  have HI := Lib.hid ih
  clear his ih hrf hs1 hs2
  unfold maxLen at hm
  by_cases hop : d'.op = 2
  · rw [if_pos hop] at hp0
    have t0 : (d'.op == 2) = true := beq_iff_eq.2 hop
    have hV0 : ∀ v' w1 o1 o2, w1.ownsRow (w.heap.size + 1) 9 1 v' (0 + 1) ([] ++ [.string d'.nm]) → ((w.alloc o1).alloc o2).grownBy w1 (Value.slice none 0 0).ownBlock → AInv w (p0 ++ refsL (l.take 0)) v' w1 := fun v' w1 o1 o2 h1 h2 => by
      refine ⟨?_, (b_more (b_new w o1) o2).grown h2 (by simp; omega) (fun k e => by cases e), by have := h2.size; simp at this; omega⟩
      rw [← hp0, List.take_zero, refsL_nil]
      exact h1
    have HV0 := Lib.hid hV0
    clear hp0 hop hV0
    go_enter Tryz.func42, Tryz.ntmps42
    go_wp2_with (at_builtin; refine wpList_append_own _ rfl _ _ 24 rfl (w.heap.size + 1) 9 i0 (.string ⟨#[]⟩) 1 16 Tryz.underlying24 hi hz0 hz1 hz2 rfl (by decide) (.slice none 0 0) 0 [] rfl (World.ownsRow_nil _ _ _ _) ⟨w.heap.size + 1, 0, none⟩ 1 1 [.string d'.nm] rfl rfl ?c1 ?c2 ?c3 ?c4 ?c5 ?_)
    case c1 =>
      intro j u hj
      match j, hj with
      | 0, hj => simp at hj; subst hj; simp [Addr.add]
    case c2 => intro u hu; simp at hu; subst hu; rfl
    case c3 => decide
    case c4 => decide
    case c5 => simp
    intro v1 w1 hown hgrow _
    have hV := HV0.out v1 w1 _ _ hown hgrow
    have x5 : w1.cell? ⟨w.heap.size, 5, none⟩ = some (.slice A l.length c) := by
      rw [World.cell?_of_block (w := ((w.alloc (.cells #[.int .i64 d'.op, .int .i64 d'.k, .int .i64 d'.n, .string d'.s, .string d'.nm, .slice A l.length c] 46)).alloc (.cells #[.string d'.nm] 9))) (hgrow.block _ (by simp; omega) (fun e => by cases e))]
      simp
    have HV := Lib.hid hV
    clear hV hown hgrow HV0 t0
    go_wp2_with fail
    go_loopw [3, 5, 17] (fun v _ i wr => ∃ (k : Nat) (v' : Value), v' = v ∧ i = .int .i64 k ∧ k ≤ l.length ∧ AInv w (p0 ++ refsL (l.take k)) v' wr) (fun _ _ i _ => l.length - (intOf i).toNat)
    case atStart => exact ⟨0, _, rfl, rfl, Nat.zero_le _, HV.out⟩
    case round =>
      obtain ⟨k, v, rfl, rfl, hk, hI⟩ := hrel
      have HI2 := Lib.hid hI
      have hbs := hI.below.size
      have hwl := hI.lt
      by_cases hlt : k < l.length
      · obtain ⟨a, d2, B, m2, c2, rfl, hat, hi2⟩ := HS.out k hlt
        obtain ⟨h0, h1, h2, h3, h4, h5⟩ := hat.below hI.below
        have hal := cell_lt' h0
        have hc := HI.out _ (List.getElem_mem hlt) d2 B m2 c2 (wr.alloc (.cells #[.int .i64 d2.op, .int .i64 d2.k, .int .i64 d2.n, .string d2.s, .string d2.nm, .slice B m2 c2] 46)) (by have := nodes_mem (List.getElem_mem hlt); omega) ((hi2.below hI.below).alloc _)
        have e2 := refsL_at l k hlt
        have e3 := refsL_take l (k + 1)
        obtain ⟨M, hM⟩ : ∃ M, Ex.refs l[k] = M := ⟨_, rfl⟩
        obtain ⟨N, hN⟩ : ∃ N, p0 ++ refsL (l.take k) = N := ⟨_, rfl⟩
        rw [hM] at hc e2
        rw [e2, List.length_append] at e3
        have e4 : p0 ++ refsL (l.take (k + 1)) = N ++ M := by rw [e2, ← List.append_assoc, hN]
        have e5 : N.length = p0.length + (refsL (l.take k)).length := by rw [← hN, List.length_append]
        have hNM : N.length + M.length ≤ 1048577 := by omega
        rw [hN] at hI
        have HC := Lib.hid hc
        have HE4 := Lib.hid e4
        have HO := Lib.hid hI.own
        clear hc hi2 hat e2 e3 e4 e5 hM hN hI
        go_wp2_with fail
        refine HC.out.mono ?_; rintro e w2 ⟨v2, rfl, hown2, hb2⟩
        have hb3 : Below wr.heap.size wr w2 := b_then hb2
        have hs3 := hb3.size
        have ho1 := NmR.own_below HO.out hb3
        have HO1 := Lib.hid ho1
        have HB3 := Lib.hid hb3
        have HN2 : ∀ v' W', W'.ownsRow (w.heap.size + 1) 9 1 v' (N.length + M.length) (strV N ++ strV M) → w2.grownBy W' v.ownBlock → AInv w (p0 ++ refsL (l.take (k + 1))) v' W' := fun v' W' q1 q2 => by
          rw [HE4.out]
          refine ⟨by rw [List.length_append, strV_append]; exact q1, ?_, by have := q2.size; omega⟩
          exact ((HI2.out.below).trans (hb3.mono hbs)).grown q2 (by omega) (fun g e => by have := (HI2.out.own.lt g e).1; omega)
        have HN3 := Lib.hid HN2
        rcases own_src hown2 with ⟨rfl, hM0⟩ | ⟨g2, cap2, rfl, hsrc⟩
        · have hfin : AInv w (p0 ++ refsL (l.take (k + 1))) v w2 := HN3.out v w2 (by rw [hM0]; simpa [strV] using ho1) ⟨rfl, rfl, rfl, Nat.le_refl _, fun _ _ _ => rfl⟩
          have HF := Lib.hid hfin
          clear hfin HN2 HN3 hown2 hb2 hb3 hM0 h0 h1 h2 h3 h4 h5
          go_wp2_with (at_builtin; refine wpList_append_own_none rfl _ _ 24 rfl (w.heap.size + 1) 9 i0 1 Tryz.underlying24 hi v N.length (strV N) rfl ho1 rfl ?_)
          go_roundw
          case rel => exact ⟨k + 1, _, rfl, by go_num, by omega, HF.out⟩
          case measure => simp [intOf]; omega
        · clear HN2 hown2 hb2 hb3 h0 h1 h2 h3 h4 h5
          go_wp2_with (at_builtin; refine wpList_append_own _ rfl _ _ 24 rfl (w.heap.size + 1) 9 i0 (.string ⟨#[]⟩) 1 16 Tryz.underlying24 hi hz0 hz1 hz2 rfl (by decide) v N.length (strV N) rfl ho1 ⟨g2, 0, none⟩ M.length cap2 (strV M) rfl (by rw [strV_len]; omega) hsrc strV_one (by unfold maxLen; omega) (by omega) (by omega) ?_; intro v3 w3 hown3 hgrow3 _)
          have hF := HN3.out v3 w3 hown3 hgrow3
          have HF := Lib.hid hF
          clear hF hown3 hgrow3 hsrc ho1
          go_wp2_with fail
          go_roundw
          case rel => exact ⟨k + 1, _, rfl, by go_num, by omega, HF.out⟩
          case measure => simp [intOf]; omega
      · have hkl : k = l.length := by omega
        subst hkl
        clear HI2
        go_wp2_with fail
        go_ret
        rw [List.take_length] at hI
        exact ⟨_, rfl, own_base hI.own (by omega), hI.below⟩
  · rw [if_neg hop] at hp0
    have t0 : (d'.op == 2) = false := beq_eq_false_iff_ne.2 hop
    have hV0 : ∀ o1, AInv w (p0 ++ refsL (l.take 0)) (.slice none 0 0) (w.alloc o1) := fun o1 => by
      refine ⟨?_, b_new w o1, by simp⟩
      rw [← hp0, List.take_zero, refsL_nil]
      exact World.ownsRow_nil _ _ _ _
    have HV := Lib.hid (hV0 (.cells #[.int .i64 d'.op, .int .i64 d'.k, .int .i64 d'.n, .string d'.s, .string d'.nm, .slice A l.length c] 46))
    clear hp0 hop hV0
    go_enter Tryz.func42, Tryz.ntmps42
    go_wp2_with fail
    go_loopw [3, 5, 17] (fun v _ i wr => ∃ (k : Nat) (v' : Value), v' = v ∧ i = .int .i64 k ∧ k ≤ l.length ∧ AInv w (p0 ++ refsL (l.take k)) v' wr) (fun _ _ i _ => l.length - (intOf i).toNat)
    case atStart => exact ⟨0, _, rfl, rfl, Nat.zero_le _, HV.out⟩
    case round =>
      obtain ⟨k, v, rfl, rfl, hk, hI⟩ := hrel
      have HI2 := Lib.hid hI
      have hbs := hI.below.size
      have hwl := hI.lt
      by_cases hlt : k < l.length
      · obtain ⟨a, d2, B, m2, c2, rfl, hat, hi2⟩ := HS.out k hlt
        obtain ⟨h0, h1, h2, h3, h4, h5⟩ := hat.below hI.below
        have hal := cell_lt' h0
        have hc := HI.out _ (List.getElem_mem hlt) d2 B m2 c2 (wr.alloc (.cells #[.int .i64 d2.op, .int .i64 d2.k, .int .i64 d2.n, .string d2.s, .string d2.nm, .slice B m2 c2] 46)) (by have := nodes_mem (List.getElem_mem hlt); omega) ((hi2.below hI.below).alloc _)
        have e2 := refsL_at l k hlt
        have e3 := refsL_take l (k + 1)
        obtain ⟨M, hM⟩ : ∃ M, Ex.refs l[k] = M := ⟨_, rfl⟩
        obtain ⟨N, hN⟩ : ∃ N, p0 ++ refsL (l.take k) = N := ⟨_, rfl⟩
        rw [hM] at hc e2
        rw [e2, List.length_append] at e3
        have e4 : p0 ++ refsL (l.take (k + 1)) = N ++ M := by rw [e2, ← List.append_assoc, hN]
        have e5 : N.length = p0.length + (refsL (l.take k)).length := by rw [← hN, List.length_append]
        have hNM : N.length + M.length ≤ 1048577 := by omega
        rw [hN] at hI
        have HC := Lib.hid hc
        have HE4 := Lib.hid e4
        have HO := Lib.hid hI.own
        clear hc hi2 hat e2 e3 e4 e5 hM hN hI
        go_wp2_with fail
        refine HC.out.mono ?_; rintro e w2 ⟨v2, rfl, hown2, hb2⟩
        have hb3 : Below wr.heap.size wr w2 := b_then hb2
        have hs3 := hb3.size
        have ho1 := NmR.own_below HO.out hb3
        have HO1 := Lib.hid ho1
        have HB3 := Lib.hid hb3
        have HN2 : ∀ v' W', W'.ownsRow (w.heap.size + 1) 9 1 v' (N.length + M.length) (strV N ++ strV M) → w2.grownBy W' v.ownBlock → AInv w (p0 ++ refsL (l.take (k + 1))) v' W' := fun v' W' q1 q2 => by
          rw [HE4.out]
          refine ⟨by rw [List.length_append, strV_append]; exact q1, ?_, by have := q2.size; omega⟩
          exact ((HI2.out.below).trans (hb3.mono hbs)).grown q2 (by omega) (fun g e => by have := (HI2.out.own.lt g e).1; omega)
        have HN3 := Lib.hid HN2
        rcases own_src hown2 with ⟨rfl, hM0⟩ | ⟨g2, cap2, rfl, hsrc⟩
        · have hfin : AInv w (p0 ++ refsL (l.take (k + 1))) v w2 := HN3.out v w2 (by rw [hM0]; simpa [strV] using ho1) ⟨rfl, rfl, rfl, Nat.le_refl _, fun _ _ _ => rfl⟩
          have HF := Lib.hid hfin
          clear hfin HN2 HN3 hown2 hb2 hb3 hM0 h0 h1 h2 h3 h4 h5
          go_wp2_with (at_builtin; refine wpList_append_own_none rfl _ _ 24 rfl (w.heap.size + 1) 9 i0 1 Tryz.underlying24 hi v N.length (strV N) rfl ho1 rfl ?_)
          go_roundw
          case rel => exact ⟨k + 1, _, rfl, by go_num, by omega, HF.out⟩
          case measure => simp [intOf]; omega
        · clear HN2 hown2 hb2 hb3 h0 h1 h2 h3 h4 h5
          go_wp2_with (at_builtin; refine wpList_append_own _ rfl _ _ 24 rfl (w.heap.size + 1) 9 i0 (.string ⟨#[]⟩) 1 16 Tryz.underlying24 hi hz0 hz1 hz2 rfl (by decide) v N.length (strV N) rfl ho1 ⟨g2, 0, none⟩ M.length cap2 (strV M) rfl (by rw [strV_len]; omega) hsrc strV_one (by unfold maxLen; omega) (by omega) (by omega) ?_; intro v3 w3 hown3 hgrow3 _)
          have hF := HN3.out v3 w3 hown3 hgrow3
          have HF := Lib.hid hF
          clear hF hown3 hgrow3 hsrc ho1
          go_wp2_with fail
          go_roundw
          case rel => exact ⟨k + 1, _, rfl, by go_num, by omega, HF.out⟩
          case measure => simp [intOf]; omega
      · have hkl : k = l.length := by omega
        subst hkl
        clear HI2
        go_wp2_with fail
        go_ret
        rw [List.take_length] at hI
        exact ⟨_, rfl, own_base hI.own (by omega), hI.below⟩

/-- A slice that holds these strings. -/
def SRow (w : World) (A : Option Addr) (L : List ByteArray) : Prop := ∀ (j : Nat) (h : j < L.length), ∃ g, A = some ⟨g, 0, none⟩ ∧ w.cell? ⟨g, j, none⟩ = some (.string L[j])
theorem SRow.of_own {w : World} {base : Nat} {v : Value} {L : List ByteArray} (h : w.ownsRow base 9 1 v L.length (strV L)) : ∃ A c, v = .slice A L.length c ∧ SRow w A L := by
  rcases h.2 with ⟨h1, h2⟩ | ⟨g, cap, cur, h1, _⟩
  · exact ⟨none, 0, by rw [h1, h2], fun j hj => by omega⟩
  · subst h1
    refine ⟨some ⟨g, 0, none⟩, cap, rfl, fun j hj => ⟨g, rfl, ?_⟩⟩
    rw [h.cellAt j (by omega), List.getElem?_eq_getElem (by rw [strV_len]; exact hj)]
    unfold strV; rw [List.getElem_map]
theorem hasB_take (L : List ByteArray) (s : ByteArray) (k : Nat) (h : k < L.length) : hasB (L.take (k + 1)) s = (hasB (L.take k) s || decide (L[k] = s)) := by
  rw [take_at L k h, hasB_append, hasB_cons, hasB_nil, Bool.or_false]
theorem hasB_of_take {L : List ByteArray} {s : ByteArray} {k : Nat} (h : hasB (L.take k) s = true) : hasB L s = true := hasB_prefix (List.take_prefix k L) h

set_option maxHeartbeats 1000000 in
theorem holds_any (L : List ByteArray) (s : ByteArray) (A : Option Addr) (c : Nat) (w : World) (hn : L.length ≤ 1048576) (h : SRow w A L) :
    Calls Tryz.prog 20 #[.slice A L.length c, .string s] w fun e w' => e = .returned (.bool (hasB L s)) ∧ w = w' := by
  obtain ⟨R, hR⟩ : ∃ R, hasB L s = R := ⟨_, rfl⟩
  rw [hR]
  have HR := Lib.hid hR
  have HH := Lib.hid h
  clear hR h
  go_enter Tryz.func20, Tryz.ntmps20
  go_wp2_with fail
  go_loopw [6, 9] (fun _ i wr => ∃ k : Nat, k ≤ L.length ∧ i = .int .i64 k ∧ wr = w ∧ hasB (L.take k) s = false) (fun _ i _ => L.length - (intOf i).toNat)
  case atStart => exact ⟨0, by omega, rfl, rfl, rfl⟩
  case round =>
    obtain ⟨k, hk, rfl, rfl, hf⟩ := hrel
    by_cases hlt : k < L.length
    · obtain ⟨g, rfl, hc⟩ := HH.out k hlt
      obtain ⟨t, ht⟩ : ∃ t, L[k] = t := ⟨_, rfl⟩
      have hsn := hasB_take L s k hlt
      rw [hf, Bool.false_or] at hsn
      rw [ht] at hc hsn
      clear hf ht
      by_cases he : t = s
      · have t1 : (t.toList == s.toList) = true := by rw [eqs_of]; exact decide_eq_true he
        rw [decide_eq_true he] at hsn
        obtain rfl : R = true := by rw [← HR.out]; exact hasB_of_take hsn
        clear hsn he
        go_wp2_with fail
        go_ret
        exact ⟨rfl, rfl⟩
      · have t1 : (t.toList == s.toList) = false := by rw [eqs_of]; exact decide_eq_false he
        rw [decide_eq_false he] at hsn
        have HSn := Lib.hid hsn
        clear hsn he
        go_wp2_with fail
        go_roundw
        case rel => exact ⟨k + 1, by omega, by go_num, by first | trivial | rfl, HSn.out⟩
        case measure => simp [intOf]; omega
    · have hkl : k = L.length := by omega
      obtain rfl : R = false := by rw [← HR.out, ← hf, hkl, List.take_length]
      clear hkl hf
      go_wp2_with fail
      go_ret
      exact ⟨rfl, rfl⟩

end Go.Proofs.YthgcmficmodhiaaGreatDoor.NmA
namespace Go.Proofs.YthgcmficmodhiaaGreatDoor.NmI
open Go.RowKit
open ExM NmM Kit ExL ExP ExV NmC NmP NmR NmA NmO
set_option linter.unusedVariables false

theorem less_lt : ∀ (l m : List UInt8), Op.bytesLess l m = decide (l < m)
  | [], [] => by simp [Op.bytesLess]
  | [], _ :: _ => by simp [Op.bytesLess]
  | _ :: _, [] => by simp [Op.bytesLess]
  | a :: l, b :: m => by
    unfold Op.bytesLess
    rw [less_lt l m]
    rw [Bool.eq_iff_iff]
    simp only [Bool.or_eq_true, Bool.and_eq_true, decide_eq_true_eq, beq_iff_eq, List.cons_lt_cons_iff]
/-- Where all ahead of a place are not greater and the next one is, a text belongs there. -/
theorem place_at (s : Bs) : ∀ (M : List Bs) (k : Nat), k ≤ M.length → (∀ (j : Nat) (h : j < M.length), j < k → ¬ s < M[j]) → (∀ h : k < M.length, s < M[k]) → place s M = M.take k ++ s :: M.drop k
  | [], 0, _, _, _ => rfl
  | [], k + 1, h, _, _ => by simp at h
  | t :: r, 0, _, _, h3 => by
    have := h3 (by simp)
    unfold place; rw [if_pos (by simpa using this)]; rfl
  | t :: r, k + 1, h1, h2, h3 => by
    have h0 := h2 0 (by simp) (by omega)
    unfold place; rw [if_neg (by simpa using h0), place_at s r k (by simpa using h1) (fun j hj hk => by have := h2 (j + 1) (by simpa using hj) (by omega); simpa using this) (fun hk => by have := h3 (by simpa using hk); simpa using this)]
    simp
theorem sorted_at {M : List Bs} (h : M.Pairwise (· < ·)) {i j : Nat} (hi : i < M.length) (hj : j < M.length) (hij : i ≤ j) : M[i] ≤ M[j] := by
  rcases Nat.lt_or_ge i j with g | g
  · exact List.le_of_lt (List.pairwise_iff_getElem.1 h i j hi hj g)
  · have : i = j := by omega
    subst this; exact List.le_refl _
/-- A text's place, found from behind. -/
theorem place_found {M : List Bs} (h : M.Pairwise (· < ·)) (s : Bs) (k : Nat) (hk : k ≤ M.length) (h1 : ∀ hl : 0 < k, ¬ s < M[k - 1]) (h2 : ∀ hl : k < M.length, s < M[k]) : place s M = M.take k ++ s :: M.drop k :=
  place_at s M k hk (fun j hj hjk hlt => List.not_lt.2 (List.le_trans (sorted_at h hj (by omega) (by omega)) (List.not_lt.1 (h1 (by omega)))) hlt) h2

def mkB (b : Bs) : ByteArray := ⟨b.toArray⟩
theorem mkB_toList (b : Bs) : (mkB b).data.toList = b := rfl
def mkL (M : List Bs) : List ByteArray := M.map mkB
theorem mkL_len (M : List Bs) : (mkL M).length = M.length := List.length_map _
theorem mkL_append (M N : List Bs) : mkL (M ++ N) = mkL M ++ mkL N := List.map_append
theorem mkB_of (s : ByteArray) : mkB s.data.toList = s := by cases s with | mk a => cases a; rfl
theorem strV_mkL (M : List Bs) : strV (mkL M) = M.map encStr := by unfold strV mkL; rw [List.map_map]; rfl
theorem hasB_mkL (M : List Bs) (s : ByteArray) : hasB (mkL M) s = decide (s.data.toList ∈ M) := by
  rw [Bool.eq_iff_iff, hasB_true, decide_eq_true_eq]
  unfold mkL
  rw [List.mem_map]
  constructor
  · rintro ⟨b, hb, e⟩
    rw [← e]; exact hb
  · intro h
    exact ⟨_, h, mkB_of s⟩
theorem bytesL_at (L : List ByteArray) (k : Nat) (h : k < L.length) : rise (bytesL (L.take (k + 1))) = ins (rise (bytesL (L.take k))) L[k].data.toList := by
  rw [take_at L k h]
  unfold bytesL
  rw [List.map_append]
  exact rise_snoc _ _

theorem own_take {w : World} {base : Nat} {g n cap k : Nat} {e : TypeId} {xs : List Value} (h : w.ownsRow base e 1 (.slice (some ⟨g, 0, none⟩) n cap) n xs) (hk : k ≤ n) : w.ownsRow base e 1 (.slice (some ⟨g, 0, none⟩) k cap) k (xs.take k) := by
  rcases h.2 with ⟨h1, _⟩ | ⟨g', cap', cur, h1, h2, h3, h4, h5, h6, h7⟩
  · cases h1
  · simp only [Value.slice.injEq, Option.some.injEq, Addr.mk.injEq, and_true, true_and] at h1
    obtain ⟨rfl, rfl⟩ := h1
    refine ⟨by rw [List.length_take, h.1]; omega, .inr ⟨g, cap, cur, rfl, h2, h3, by omega, h5, h6, ?_⟩⟩
    rw [← h7, List.take_take]; congr 1; omega
section
variable {P : Program} (w : World)
theorem step_append_own {ops : Array Oper} {o : Oper} {a : Act} {K : Act → World → Prop} {Q : Exit → Act → World → Prop} {E : Prop} (hgd : o.guard = none) (s x : Operand) (t : TypeId)
    (ho : o.op = .call { callee := .builtin .append, args := #[s, x], argTypes := #[t, t] })
    (base : Nat) (e : TypeId) (i : TypeInfo) (z : Value) (size bytes : Nat) (ht : P.underlying t = some (.slice e)) (hi : P.info? e = some i) (hz : i.zero = some z)
    (hsize : i.size = size) (hby : i.bytes = bytes) (hzs : z.cells.size = size) (hsz : 0 < size)
    (v : Value) (n : Nat) (xs : List Value) (hs : a.eval s = v) (hown : w.ownsRow base e size v n xs)
    (ad : Addr) (m c : Nat) (news : List Value) (hx : a.eval x = .slice (some ad) m c) (hl : news.length = m * size) (hnews : ∀ j u, news[j]? = some u → w.cell? (ad.add j) = some u) (h1 : ∀ u ∈ news, u.oneCell' = true)
    (h63 : n + m ≤ maxLen) (hbytes : (n + m) * bytes ≤ 140737488355328) (hbase : base ≤ w.heap.size)
    (h : ∀ v' w', w'.ownsRow base e size v' (n + m) (xs ++ news) → w.grownBy w' v.ownBlock → (v' = .slice none 0 0 ↔ v = .slice none 0 0 ∧ m = 0) → K (a.put o.dst v') w') :
    if Region.wanted o (yielded ops a.tmps) = true then Oper.wp P o a w K Q else E := by
  have hw : Region.wanted o (yielded ops a.tmps) = true := by simp [Region.wanted, hgd]
  rw [if_pos hw]
  exact wp_append_own w s x t ho base e i z size bytes ht hi hz hsize hby hzs hsz v n xs hs hown ad m c news hx hl hnews h1 h63 hbytes hbase h
theorem step_append_nil {ops : Array Oper} {o : Oper} {a : Act} {K : Act → World → Prop} {Q : Exit → Act → World → Prop} {E : Prop} (hgd : o.guard = none) (s x : Operand) (t : TypeId)
    (ho : o.op = .call { callee := .builtin .append, args := #[s, x], argTypes := #[t, t] })
    (base : Nat) (e : TypeId) (i : TypeInfo) (size : Nat) (ht : P.underlying t = some (.slice e)) (hi : P.info? e = some i)
    (v : Value) (n : Nat) (xs : List Value) (hs : a.eval s = v) (hown : w.ownsRow base e size v n xs) (hx : a.eval x = .slice none 0 0)
    (h : K (a.put o.dst v) w) : if Region.wanted o (yielded ops a.tmps) = true then Oper.wp P o a w K Q else E := by
  have hw : Region.wanted o (yielded ops a.tmps) = true := by simp [Region.wanted, hgd]
  rw [if_pos hw]
  have hrun := run_append_owned_none (P := P) (w := w) base t o.type e i size ht hi v n xs hown
  unfold Oper.wp execOp
  simp only [ho, resolve, invoke, builtin, Sem.run_bind, Sem.run_pure, Result.andThen_ok, List.map_toArray, List.map_cons, List.map_nil, hs, hx, hrun]
  exact h
end
/-- Between two texts. -/
structure RInv (w : World) (M : List Bs) (v : Value) (wr : World) : Prop where
  own : wr.ownsRow w.heap.size 9 1 v M.length (M.map encStr)
  nil : M = [] → v = .slice none 0 0
  below : Below w.heap.size w wr
def RiseOut (M : List Bs) (w : World) (e : Ending) (w' : World) : Prop := ∃ v : Value, e = .returned v ∧ w'.ownsRow w.heap.size 9 1 v M.length (M.map encStr) ∧ Below w.heap.size w w'
theorem enc_at (M : List Bs) (j : Nat) (h : j < M.length) : (M.map encStr)[j]? = some (.string (mkB M[j])) := by rw [List.getElem?_map, List.getElem?_eq_getElem h]; rfl
theorem enc_one {M : List Bs} : ∀ u ∈ M.map encStr, u.oneCell' = true := fun u hu => by
  obtain ⟨s, _, rfl⟩ := List.mem_map.1 hu; rfl

theorem ins_new {M : List Bs} {s : Bs} (h : s ∉ M) : ins M s = place s M := by unfold ins; rw [if_neg h]
theorem RInv.put {w wo w9 : World} {M : List Bs} {v v9 : Value} {s : ByteArray} {k : Nat} (h : RInv w M v wo) (hk : k ≤ M.length) (hp : place s.data.toList M = M.take k ++ s.data.toList :: M.drop k)
    (hown : w9.ownsRow w.heap.size 9 1 v9 (k + (1 + (M.length - k))) ((M.map encStr).take k ++ ([.string s] ++ (M.map encStr).drop k))) (hb : Below w.heap.size w w9) : RInv w (place s.data.toList M) v9 w9 := by
  have e1 : (place s.data.toList M).length = k + (1 + (M.length - k)) := by rw [place_len]; omega
  have e2 : (place s.data.toList M).map encStr = (M.map encStr).take k ++ ([.string s] ++ (M.map encStr).drop k) := by
    rw [hp, List.map_append, List.map_cons, List.map_take, List.map_drop]
    have : encStr s.data.toList = .string s := congrArg Value.string (mkB_of s)
    rw [this]; rfl
  refine ⟨by rw [e1, e2]; exact hown, fun h => ?_, hb⟩
  rw [h] at e1; simp at e1; omega
/-- The prefix of the row is there still behind what was appended elsewhere. -/
theorem own_still {wo w2 : World} {base g n cap k B : Nat} {xs : List Value} {o : Obj} (h : wo.ownsRow base 9 1 (.slice (some ⟨g, 0, none⟩) n cap) n xs) (hk : k ≤ n) (hB : B = wo.heap.size) (hg : (wo.drew.alloc o).grownBy w2 (some B)) : w2.ownsRow base 9 1 (.slice (some ⟨g, 0, none⟩) k cap) k (xs.take k) := by
  have h1 := own_below h (b_more (b_drew (Below.refl wo.heap.size wo)) o)
  have h2 := own_take h1 hk
  refine h2.kept hg (.inr fun e => ?_)
  have e' : g = B := by injection e
  have := (h.lt g rfl).2
  omega
theorem put_below {w wo w2 w3 : World} {o : Obj} {row row2 : Option Nat} (h : Below w.heap.size w wo) (h2 : (wo.drew.alloc o).grownBy w2 row) (hr : ∀ g, row = some g → w.heap.size ≤ g) (h3 : w2.grownBy w3 row2) (hr2 : ∀ g, row2 = some g → w.heap.size ≤ g) : Below w.heap.size w w3 := by
  have hs := h.size
  have h1 : Below w.heap.size w (wo.drew.alloc o) := h.trans ((b_more (b_drew (Below.refl wo.heap.size wo)) o).mono hs)
  have h4 := h1.grown h2 h1.size hr
  exact h4.grown h3 h4.size hr2
/-! ### The walk -/
set_option maxHeartbeats 8000000 in
set_option maxRecDepth 100000 in
theorem rising_any (L : List ByteArray) (A : Option Addr) (c : Nat) (w : World) (hn : L.length ≤ 1048576) (h : SRow w A L) :
    Calls Tryz.prog 41 #[.slice A L.length c] w (RiseOut (rise (bytesL L)) w) := by
  obtain ⟨i0, hi, hz0, hz1, hz2⟩ := info_parts infoStr
  have HH := Lib.hid h
  clear h
  go_enter Tryz.func41, Tryz.ntmps41
  go_wp2_with fail
  go_loopw [3, 5, 6, 9] (fun v _ _ i wr => ∃ (k : Nat) (v' : Value), v' = v ∧ i = .int .i64 k ∧ k ≤ L.length ∧ RInv w (rise (bytesL (L.take k))) v' wr) (fun _ _ _ i _ => L.length - (intOf i).toNat)
  case atStart => exact ⟨0, _, rfl, rfl, Nat.zero_le _, ⟨World.ownsRow_nil _ _ _ _, fun _ => rfl, Below.refl _ _⟩⟩
  case round =>
    obtain ⟨i, v, rfl, rfl, hk, hI⟩ := hrel
    by_cases hlt : i < L.length
    · obtain ⟨g0, rfl, hc⟩ := HH.out i hlt
      have hg0 : g0 < w.heap.size := World.block_lt_of_cell? w _ hc
      have hc1 := (hI.below.cell (p := ⟨g0, i, none⟩) hg0).trans hc
      have hstep := bytesL_at L i hlt
      have hlen := rise_len (bytesL (L.take i))
      have hlb : (bytesL (L.take i)).length ≤ 1048576 := by unfold bytesL; rw [List.length_map, List.length_take]; omega
      have hsort := rise_sorted (bytesL (L.take i))
      obtain ⟨s, hs⟩ : ∃ s, L[i] = s := ⟨_, rfl⟩
      obtain ⟨M, hM⟩ : ∃ M, rise (bytesL (L.take i)) = M := ⟨_, rfl⟩
      rw [hM] at hI hstep hlen hsort
      rw [hs] at hc1 hstep
      have hn0 : M.length ≤ 1048576 := by omega
      have HS := Lib.hid hstep
      have HSo := Lib.hid hsort
      have HI := Lib.hid hI
      have hbs := hI.below.size
      obtain ⟨A1, c1, hv, hrow⟩ := SRow.of_own (L := mkL M) (by rw [mkL_len, strV_mkL]; exact hI.own)
      rw [mkL_len] at hv
      subst hv
      have hh := holds_any (mkL M) s A1 c1 wr (by rw [mkL_len]; exact hn0) hrow
      rw [mkL_len, hasB_mkL] at hh
      have HHo := Lib.hid hh
      clear hh hc hstep hlen hlb hM hs hI hsort hrow
      go_wp2_with fail
      refine HHo.out.mono ?_; rintro e w1 ⟨rfl, rfl⟩
      by_cases hin : s.data.toList ∈ M
      · have t1 : decide (s.data.toList ∈ M) = true := decide_eq_true hin
        have hfin : RInv w (rise (bytesL (L.take (i + 1)))) (.slice A1 M.length c1) wr := by
          rw [HS.out]; unfold ins; rw [if_pos hin]; exact HI.out
        have HF := Lib.hid hfin
        rw [t1]
        clear hin hfin t1
        go_wp2_with fail
        go_roundw
        case rel => exact ⟨i + 1, _, rfl, by go_num, by omega, HF.out⟩
        case measure => simp [intOf]; omega
      · have t1 : decide (s.data.toList ∈ M) = false := decide_eq_false hin
        rw [t1]
        have HIn := Lib.hid hin
        clear hin t1
        obtain ⟨wo, hwo⟩ : ∃ wo : World, wo = wr := ⟨_, rfl⟩
        subst hwo
        go_wp2_with fail
        go_loopw [6] (fun x wx => ∃ (k : Nat), x = .int .i64 k ∧ k ≤ M.length ∧ wo = wx ∧ ∀ (j : Nat) (hj : j < M.length), k ≤ j → s.data.toList < M[j]) (fun x _ => (intOf x).toNat)
        case atStart => exact ⟨M.length, rfl, Nat.le_refl _, rfl, fun j hj h => by omega⟩
        case round =>
          obtain ⟨k, rfl, hkn, rfl, hgt⟩ := hrel
          have HG := Lib.hid hgt
          clear hgt
          by_cases hk0 : k = 0
          · have hk1 : ¬ 0 < k := by omega
            by_cases hM0 : M = []
            · subst hM0
              subst hk0
              have hnil := HI.out.nil rfl
              injection hnil with hn1 hn2 hn3
              subst hn1 hn3
              have hfin : ∀ v9 w9, w9.ownsRow w.heap.size 9 1 v9 1 [.string s] → Below w.heap.size w w9 → RInv w (rise (bytesL (L.take (i + 1)))) v9 w9 := fun v9 w9 h1 h2 => by
                rw [HS.out, ins_new HIn.out]
                exact HI.out.put (k := 0) (by simp) rfl h1 h2
              have HFin := Lib.hid hfin
              have hlt0 : w.heap.size ≤ wo.heap.size := HI.out.below.size
              clear hfin HG hk1
              go_wp2_with fail
              go_region_law (first
                | (refine step_append_own _ (by rfl) (.tmp 33) (.tmp 39) 24 (by rfl) w.heap.size 9 i0 _ 1 16 Tryz.underlying24 hi hz0 hz1 hz2 rfl (by decide) (.slice none 0 0) 0 [] (by rfl) (World.ownsRow_nil _ _ _ _) ⟨wo.heap.size, 0, none⟩ 1 1 [.string s] (by rfl) (by rfl) (World.news_of_block (cs := #[.string s]) (t := 9) (fr := (0, 0)) (heap_alloc_new wo.drew _)) (fun u h => by { simp at h; subst h; rfl }) (by decide) (by decide) (by simp; omega) ?_; intro v40 w3 hown40 hgrow40 _; have H40 := Lib.hid (And.intro hown40 hgrow40); clear hown40 hgrow40)
                | (refine step_append_nil _ (by rfl) (.tmp 35) (.tmp 38) 24 (by rfl) w.heap.size 9 i0 1 Tryz.underlying24 hi (.slice (some ⟨wo.heap.size, 0, none⟩) 1 1) 1 [.string s] (by rfl) (World.ownsRow_lit wo.drew #[.string s] 1 hlt0 (by decide) rfl) (by rfl) ?_))
              all_goals
                have hfin := HFin.out v40 w3 H40.out.1 (put_below (o := .cells #[.string s] 9) (row := none) HI.out.below ⟨rfl, rfl, rfl, Nat.le_refl _, fun _ _ _ => rfl⟩ (fun x e => by cases e) H40.out.2 (fun x e => by cases e))
                have HF := Lib.hid hfin
                clear hfin H40 HFin
                go_wp2_with fail
                go_roundw
                case rel => exact ⟨i + 1, _, rfl, by go_num, by omega, HF.out⟩
                case measure => simp [intOf]; omega
            · have hM1 : 0 < M.length := List.length_pos_iff.2 hM0
              have HK0 := Lib.hid hk0
              clear hk0 hM0
              obtain ⟨g, cap, hv, hgb, hgl, hnc, hcm, hcl⟩ := NmR.own_form HI.out.own hM1
              injection hv with hv1 hv2 hv3
              subst hv1 hv3
              have HL := Lib.hid hcl
              clear hcl
              have hpl := place_found HSo.out s.data.toList k (by omega) (fun hl => absurd hl hk1) (fun hl => HG.out k hl (Nat.le_refl _))
              have hfin : ∀ v9 w9, w9.ownsRow w.heap.size 9 1 v9 (k + (1 + (M.length - k))) ((M.map encStr).take k ++ ([.string s] ++ (M.map encStr).drop k)) → Below w.heap.size w w9 → RInv w (rise (bytesL (L.take (i + 1)))) v9 w9 := fun v9 w9 h1 h2 => by
                rw [HS.out, ins_new HIn.out]
                exact HI.out.put (k := k) (by omega) hpl h1 h2
              have HFin := Lib.hid hfin
              have hsrc : ∀ (j : Nat) (u : Value), ((M.map encStr).drop k)[j]? = some u → wo.cell? ⟨g, k + j, none⟩ = some u := fun j u hj => by
                rw [List.getElem?_drop] at hj
                have hl9 := (List.getElem?_eq_some_iff.1 hj).1
                rw [List.length_map] at hl9
                rw [HL.out (k + j) (by omega), hj]
              have HSrc := Lib.hid hsrc
              have hlt0 : w.heap.size ≤ wo.heap.size := HI.out.below.size
              clear hpl hfin hsrc
              clear HG
              have hkc : k ≤ c1 := by omega
              by_cases hck : k = c1
              · subst hck
                have hz : M.length - k = 0 := by omega
                have hdr : (M.map encStr).drop k = [] := List.drop_eq_nil_of_le (by rw [List.length_map]; omega)
                have hfin2 : ∀ v9 w9, w9.ownsRow w.heap.size 9 1 v9 (k + 1) ((M.map encStr).take k ++ [.string s]) → Below w.heap.size w w9 → RInv w (rise (bytesL (L.take (i + 1)))) v9 w9 := fun v9 w9 h1 h2 => HFin.out v9 w9 (by rw [hdr, hz]; exact h1) h2
                clear HFin hz hdr
                have HFin := Lib.hid hfin2
                clear hfin2
                go_wp2_with fail
                go_region_law (first
                  | (refine step_append_own _ (by rfl) (.tmp 33) (.tmp 39) 24 (by rfl) w.heap.size 9 i0 _ 1 16 Tryz.underlying24 hi hz0 hz1 hz2 rfl (by decide) (.slice (some ⟨g, 0, none⟩) k k) k ((M.map encStr).take k) (by rfl) own33 ⟨g2, 0, none⟩ 1 cap2 [.string s] (by rfl) (by rfl) cells39 one39 (by unfold maxLen; omega) (by omega) (by omega) ?_; intro v40 w3 hown40 hgrow40 _; have H40 := Lib.hid (And.intro hown40 hgrow40); clear hown40 hgrow40)
                  | (refine step_append_own _ (by rfl) (.tmp 35) (.tmp 38) 24 (by rfl) w.heap.size 9 i0 _ 1 16 Tryz.underlying24 hi hz0 hz1 hz2 rfl (by decide) (.slice (some ⟨wo.heap.size, 0, none⟩) 1 1) 1 [.string s] (by rfl) (World.ownsRow_lit wo.drew #[.string s] 1 hlt0 (by decide) rfl) ⟨g, 0, none⟩ 0 0 [] (by rfl) (by rfl) (fun j u hj => by simp at hj) (fun u hu => by simp at hu) (by decide) (by decide) (by simp; omega) ?_; intro v39 w2 hown39a hgrow39 _; have hown39 : w2.ownsRow w.heap.size 9 1 v39 1 [.string s] := hown39a; clear hown39a; obtain ⟨g2, cap2, rfl, hg2, hg3⟩ := hown39.form (by decide); have own33 := own_still (k := k) (B := wo.heap.size) HI.out.own (by omega) rfl hgrow39; have cells39 : ∀ (j : Nat) (u : Value), [Value.string s][j]? = some u → w2.cell? ((⟨g2, 0, none⟩ : Addr).add j) = some u := fun j u hj => by { have hl := (List.getElem?_eq_some_iff.1 hj).1; rw [ExP.add_block, hown39.cellAt j (by simp at hl; omega), hj] }; have one39 : ∀ u ∈ [Value.string s], u.oneCell' = true := fun u h => by { simp at h; subst h; rfl }; have hs2 := hgrow39.size; have H39 := Lib.hid hgrow39; clear hgrow39))
                all_goals
                  have hfin := HFin.out v40 w3 H40.out.1 (put_below HI.out.below H39.out (fun x e => by { have e2 : some wo.heap.size = some x := e; injection e2 with e2; omega }) H40.out.2 (fun x e => by { have e2 : some g = some x := e; injection e2 with e2; omega }))
                  have HF := Lib.hid hfin
                  clear hfin H40 H39 own33 cells39 one39 hown39 HFin HSrc
                  go_wp2_with fail
                  go_roundw
                  case rel => exact ⟨i + 1, _, rfl, by go_num, by omega, HF.out⟩
                  case measure => simp [intOf]; omega
              · have hck2 : ¬ c1 = k := fun e => hck e.symm
                go_wp2_with fail
                go_region_law (first
                  | (refine step_append_own _ (by rfl) (.tmp 33) (.tmp 39) 24 (by rfl) w.heap.size 9 i0 _ 1 16 Tryz.underlying24 hi hz0 hz1 hz2 rfl (by decide) (.slice (some ⟨g, 0, none⟩) k c1) k ((M.map encStr).take k) (by rfl) own33 ⟨g2, 0, none⟩ (1 + (M.length - k)) cap2 ([.string s] ++ (M.map encStr).drop k) (by rfl) (by simp; omega) cells39 one39 (by unfold maxLen; omega) (by omega) (by omega) ?_; intro v40 w3 hown40 hgrow40 _; have H40 := Lib.hid (And.intro hown40 hgrow40); clear hown40 hgrow40)
                  | (refine step_append_own _ (by rfl) (.tmp 35) (.tmp 38) 24 (by rfl) w.heap.size 9 i0 _ 1 16 Tryz.underlying24 hi hz0 hz1 hz2 rfl (by decide) (.slice (some ⟨wo.heap.size, 0, none⟩) 1 1) 1 [.string s] (by rfl) (World.ownsRow_lit wo.drew #[.string s] 1 hlt0 (by decide) rfl) ⟨g, k, none⟩ (M.length - k) (c1 - k) ((M.map encStr).drop k) (by rfl) (by simp [List.length_drop]) (fun j u hj => by { rw [show (⟨g, k, none⟩ : Addr).add j = ⟨g, k + j, none⟩ from by { unfold Addr.add; split; rename_i h; subst h; rfl; rfl }]; exact (b_more (b_drew (Below.refl wo.heap.size wo)) _).cell (p := ⟨g, k + j, none⟩) hgl |>.trans (HSrc.out j u hj) }) (fun u hu => enc_one u (List.mem_of_mem_drop hu)) (by unfold maxLen; omega) (by omega) (by simp; omega) ?_; intro v39 w2 hown39 hgrow39 _; obtain ⟨g2, cap2, rfl, hg2, hg3⟩ := hown39.form (by omega); have own33 := own_still (k := k) (B := wo.heap.size) HI.out.own (by omega) rfl hgrow39; have cells39 : ∀ (j : Nat) (u : Value), ([.string s] ++ (M.map encStr).drop k)[j]? = some u → w2.cell? ((⟨g2, 0, none⟩ : Addr).add j) = some u := fun j u hj => by { have hl := (List.getElem?_eq_some_iff.1 hj).1; rw [ExP.add_block, hown39.cellAt j (by simp at hl; omega), hj] }; have one39 : ∀ u ∈ [.string s] ++ (M.map encStr).drop k, u.oneCell' = true := fun u hu => by { rcases List.mem_append.1 hu with h | h; simp at h; subst h; rfl; exact enc_one u (List.mem_of_mem_drop h) }; have hs2 := hgrow39.size; have H39 := Lib.hid hgrow39; clear hgrow39))
                all_goals
                  have hfin := HFin.out v40 w3 H40.out.1 (put_below HI.out.below H39.out (fun x e => by { have e2 : some wo.heap.size = some x := e; injection e2 with e2; omega }) H40.out.2 (fun x e => by { have e2 : some g = some x := e; injection e2 with e2; omega }))
                  have HF := Lib.hid hfin
                  clear hfin H40 H39 own33 cells39 one39 hown39 HFin HSrc
                  go_wp2_with fail
                  go_roundw
                  case rel => exact ⟨i + 1, _, rfl, by go_num, by omega, HF.out⟩
                  case measure => simp [intOf]; omega
          · have hpos : 0 < k := by omega
            obtain ⟨g, cap, hv, hgb, hgl, hnc, hcm, hcl⟩ := NmR.own_form HI.out.own (by omega)
            injection hv with hv1 hv2 hv3
            subst hv1 hv3
            obtain ⟨t, ht⟩ : ∃ t, M[k - 1] = t := ⟨_, rfl⟩
            have hcell : wo.cell? ⟨g, k - 1, none⟩ = some (.string (mkB t)) := by rw [hcl (k - 1) (by omega), enc_at M (k - 1) (by omega), ht]
            have hne : t ≠ s.data.toList := fun e => HIn.out (by rw [← e, ← ht]; exact List.getElem_mem _)
            have q2 : ((mkB t).toList == s.toList) = false := by rw [ByteArray.toList_eq, ByteArray.toList_eq]; exact beq_eq_false_iff_ne.2 hne
            have q0 : Op.bytesLess (mkB t).toList s.toList = decide (t < s.data.toList) := by rw [ByteArray.toList_eq, ByteArray.toList_eq]; exact less_lt t s.data.toList
            have hk1 : (k : Int) - 1 = ((k - 1 : Nat) : Int) := by omega
            have HM := Lib.hid ht
            have HL := Lib.hid hcl
            clear ht hcl hk1 hne
            by_cases hts : t < s.data.toList
            · rw [decide_eq_true hts] at q0
              have HTS := Lib.hid hts
              clear hts
              have hpl := place_found HSo.out s.data.toList k (by omega) (fun _ => by have := HTS.out; rw [← HM.out] at this; exact fun h => absurd (List.lt_trans h this) (List.lt_irrefl _)) (fun hl => HG.out k hl (Nat.le_refl _))
              have hfin : ∀ v9 w9, w9.ownsRow w.heap.size 9 1 v9 (k + (1 + (M.length - k))) ((M.map encStr).take k ++ ([.string s] ++ (M.map encStr).drop k)) → Below w.heap.size w w9 → RInv w (rise (bytesL (L.take (i + 1)))) v9 w9 := fun v9 w9 h1 h2 => by
                rw [HS.out, ins_new HIn.out]
                exact HI.out.put (k := k) (by omega) hpl h1 h2
              have HFin := Lib.hid hfin
              have hsrc : ∀ (j : Nat) (u : Value), ((M.map encStr).drop k)[j]? = some u → wo.cell? ⟨g, k + j, none⟩ = some u := fun j u hj => by
                rw [List.getElem?_drop] at hj
                have hl9 := (List.getElem?_eq_some_iff.1 hj).1
                rw [List.length_map] at hl9
                rw [HL.out (k + j) (by omega), hj]
              have HSrc := Lib.hid hsrc
              have hlt0 : w.heap.size ≤ wo.heap.size := HI.out.below.size
              clear hpl hfin hsrc
              clear HG HM HTS
              have hkc : k ≤ c1 := by omega
              by_cases hck : k = c1
              · subst hck
                have hz : M.length - k = 0 := by omega
                have hdr : (M.map encStr).drop k = [] := List.drop_eq_nil_of_le (by rw [List.length_map]; omega)
                have hfin2 : ∀ v9 w9, w9.ownsRow w.heap.size 9 1 v9 (k + 1) ((M.map encStr).take k ++ [.string s]) → Below w.heap.size w w9 → RInv w (rise (bytesL (L.take (i + 1)))) v9 w9 := fun v9 w9 h1 h2 => HFin.out v9 w9 (by rw [hdr, hz]; exact h1) h2
                clear HFin hz hdr
                have HFin := Lib.hid hfin2
                clear hfin2
                go_wp2_with fail
                go_region_law (first
                  | (refine step_append_own _ (by rfl) (.tmp 33) (.tmp 39) 24 (by rfl) w.heap.size 9 i0 _ 1 16 Tryz.underlying24 hi hz0 hz1 hz2 rfl (by decide) (.slice (some ⟨g, 0, none⟩) k k) k ((M.map encStr).take k) (by rfl) own33 ⟨g2, 0, none⟩ 1 cap2 [.string s] (by rfl) (by rfl) cells39 one39 (by unfold maxLen; omega) (by omega) (by omega) ?_; intro v40 w3 hown40 hgrow40 _; have H40 := Lib.hid (And.intro hown40 hgrow40); clear hown40 hgrow40)
                  | (refine step_append_own _ (by rfl) (.tmp 35) (.tmp 38) 24 (by rfl) w.heap.size 9 i0 _ 1 16 Tryz.underlying24 hi hz0 hz1 hz2 rfl (by decide) (.slice (some ⟨wo.heap.size, 0, none⟩) 1 1) 1 [.string s] (by rfl) (World.ownsRow_lit wo.drew #[.string s] 1 hlt0 (by decide) rfl) ⟨g, 0, none⟩ 0 0 [] (by rfl) (by rfl) (fun j u hj => by simp at hj) (fun u hu => by simp at hu) (by decide) (by decide) (by simp; omega) ?_; intro v39 w2 hown39a hgrow39 _; have hown39 : w2.ownsRow w.heap.size 9 1 v39 1 [.string s] := hown39a; clear hown39a; obtain ⟨g2, cap2, rfl, hg2, hg3⟩ := hown39.form (by decide); have own33 := own_still (k := k) (B := wo.heap.size) HI.out.own (by omega) rfl hgrow39; have cells39 : ∀ (j : Nat) (u : Value), [Value.string s][j]? = some u → w2.cell? ((⟨g2, 0, none⟩ : Addr).add j) = some u := fun j u hj => by { have hl := (List.getElem?_eq_some_iff.1 hj).1; rw [ExP.add_block, hown39.cellAt j (by simp at hl; omega), hj] }; have one39 : ∀ u ∈ [Value.string s], u.oneCell' = true := fun u h => by { simp at h; subst h; rfl }; have hs2 := hgrow39.size; have H39 := Lib.hid hgrow39; clear hgrow39))
                all_goals
                  have hfin := HFin.out v40 w3 H40.out.1 (put_below HI.out.below H39.out (fun x e => by { have e2 : some wo.heap.size = some x := e; injection e2 with e2; omega }) H40.out.2 (fun x e => by { have e2 : some g = some x := e; injection e2 with e2; omega }))
                  have HF := Lib.hid hfin
                  clear hfin H40 H39 own33 cells39 one39 hown39 HFin HSrc
                  go_wp2_with fail
                  go_roundw
                  case rel => exact ⟨i + 1, _, rfl, by go_num, by omega, HF.out⟩
                  case measure => simp [intOf]; omega
              · have hck2 : ¬ c1 = k := fun e => hck e.symm
                go_wp2_with fail
                go_region_law (first
                  | (refine step_append_own _ (by rfl) (.tmp 33) (.tmp 39) 24 (by rfl) w.heap.size 9 i0 _ 1 16 Tryz.underlying24 hi hz0 hz1 hz2 rfl (by decide) (.slice (some ⟨g, 0, none⟩) k c1) k ((M.map encStr).take k) (by rfl) own33 ⟨g2, 0, none⟩ (1 + (M.length - k)) cap2 ([.string s] ++ (M.map encStr).drop k) (by rfl) (by simp; omega) cells39 one39 (by unfold maxLen; omega) (by omega) (by omega) ?_; intro v40 w3 hown40 hgrow40 _; have H40 := Lib.hid (And.intro hown40 hgrow40); clear hown40 hgrow40)
                  | (refine step_append_own _ (by rfl) (.tmp 35) (.tmp 38) 24 (by rfl) w.heap.size 9 i0 _ 1 16 Tryz.underlying24 hi hz0 hz1 hz2 rfl (by decide) (.slice (some ⟨wo.heap.size, 0, none⟩) 1 1) 1 [.string s] (by rfl) (World.ownsRow_lit wo.drew #[.string s] 1 hlt0 (by decide) rfl) ⟨g, k, none⟩ (M.length - k) (c1 - k) ((M.map encStr).drop k) (by rfl) (by simp [List.length_drop]) (fun j u hj => by { rw [show (⟨g, k, none⟩ : Addr).add j = ⟨g, k + j, none⟩ from by { unfold Addr.add; split; rename_i h; subst h; rfl; rfl }]; exact (b_more (b_drew (Below.refl wo.heap.size wo)) _).cell (p := ⟨g, k + j, none⟩) hgl |>.trans (HSrc.out j u hj) }) (fun u hu => enc_one u (List.mem_of_mem_drop hu)) (by unfold maxLen; omega) (by omega) (by simp; omega) ?_; intro v39 w2 hown39 hgrow39 _; obtain ⟨g2, cap2, rfl, hg2, hg3⟩ := hown39.form (by omega); have own33 := own_still (k := k) (B := wo.heap.size) HI.out.own (by omega) rfl hgrow39; have cells39 : ∀ (j : Nat) (u : Value), ([.string s] ++ (M.map encStr).drop k)[j]? = some u → w2.cell? ((⟨g2, 0, none⟩ : Addr).add j) = some u := fun j u hj => by { have hl := (List.getElem?_eq_some_iff.1 hj).1; rw [ExP.add_block, hown39.cellAt j (by simp at hl; omega), hj] }; have one39 : ∀ u ∈ [.string s] ++ (M.map encStr).drop k, u.oneCell' = true := fun u hu => by { rcases List.mem_append.1 hu with h | h; simp at h; subst h; rfl; exact enc_one u (List.mem_of_mem_drop h) }; have hs2 := hgrow39.size; have H39 := Lib.hid hgrow39; clear hgrow39))
                all_goals
                  have hfin := HFin.out v40 w3 H40.out.1 (put_below HI.out.below H39.out (fun x e => by { have e2 : some wo.heap.size = some x := e; injection e2 with e2; omega }) H40.out.2 (fun x e => by { have e2 : some g = some x := e; injection e2 with e2; omega }))
                  have HF := Lib.hid hfin
                  clear hfin H40 H39 own33 cells39 one39 hown39 HFin HSrc
                  go_wp2_with fail
                  go_roundw
                  case rel => exact ⟨i + 1, _, rfl, by go_num, by omega, HF.out⟩
                  case measure => simp [intOf]; omega
            · rw [decide_eq_false hts] at q0
              have HTS := Lib.hid hts
              clear hts
              have hnew : ∀ (j : Nat) (hj : j < M.length), k - 1 ≤ j → s.data.toList < M[j] := fun j hj hkj => by
                rcases Nat.lt_or_ge j k with g | g
                · have : j = k - 1 := by omega
                  subst this
                  rw [HM.out]
                  have q3 : t ≠ s.data.toList := fun e => HIn.out (by rw [← e, ← HM.out]; exact List.getElem_mem _)
                  exact lt_or HTS.out q3
                · exact HG.out j hj g
              have HNew := Lib.hid hnew
              clear hnew
              go_wp2_with fail
              go_roundw
              case rel => exact ⟨k - 1, by go_num, by omega, by first | trivial | rfl, HNew.out⟩
              case measure => simp [intOf]; omega
    · have hkl : i = L.length := by omega
      subst hkl
      rw [List.take_length] at hI
      have HI := Lib.hid hI
      clear hI
      go_wp2_with fail
      go_ret
      exact ⟨_, rfl, HI.out.own, HI.out.below⟩
end Go.Proofs.YthgcmficmodhiaaGreatDoor.NmI
namespace Go.Proofs.YthgcmficmodhiaaGreatDoor.NmT
open Go.RowKit
open ExM NmM Kit ExL ExP ExV NmC NmP NmR NmA NmO NmI
set_option linter.unusedVariables false

theorem toSRow {w : World} {base : Nat} {v : Value} {M : List Bs} (h : w.ownsRow base 9 1 v M.length (M.map encStr)) : ∃ A c, v = .slice A M.length c ∧ SRow w A (mkL M) := by
  obtain ⟨A, c, e, hr⟩ := SRow.of_own (L := mkL M) (by rw [mkL_len, strV_mkL]; exact h)
  rw [mkL_len] at e
  exact ⟨A, c, e, hr⟩
theorem SRow.below {w w' : World} {A : Option Addr} {L : List ByteArray} (h : SRow w A L) (hb : Below w.heap.size w w') : SRow w' A L := fun j hj => by
  obtain ⟨g, e, hc⟩ := h j hj
  exact ⟨g, e, (hb.cell (p := ⟨g, j, none⟩) (World.block_lt_of_cell? w _ hc)).trans hc⟩
theorem bytes_refs (L : List ByteArray) : mkL (bytesL L) = L := by
  unfold mkL bytesL; rw [List.map_map]
  exact (List.map_congr_left fun s _ => mkB_of s).trans (List.map_id'' (fun _ => rfl) L)

set_option maxHeartbeats 1000000 in
theorem equal_any (w : World) (L : List ByteArray) (A1 A2 : Option Addr) (c1 c2 : Nat) (hl : L.length ≤ 1048576) (h1 : SRow w A1 L) (h2 : SRow w A2 L) :
    Calls Tryz.prog 23 #[.slice A1 L.length c1, .slice A2 L.length c2] w fun e w' => e = .returned (.bool true) ∧ ∃ m, w' = w.drewN m := by
  have H1 := Lib.hid h1
  have H2 := Lib.hid h2
  clear h1 h2
  go_enter Tryz.func23, Tryz.ntmps23
  go_wp2_with fail
  go_loopw [5, 13] (fun _ i wr => ∃ k m : Nat, k ≤ L.length ∧ i = .int .i64 k ∧ wr = w.drewN m) (fun _ i _ => L.length - (intOf i).toNat)
  case atStart => exact ⟨0, 0, by omega, rfl, rfl⟩
  case round =>
    obtain ⟨k, m, hk, rfl, rfl⟩ := hrel
    by_cases hlt : k < L.length
    · obtain ⟨g, rfl, y0⟩ := H1.out k hlt
      obtain ⟨g', rfl, z0⟩ := H2.out k hlt
      obtain ⟨t, ht⟩ : ∃ t, L[k] = t := ⟨_, rfl⟩
      rw [ht] at y0 z0
      clear ht
      go_wp2_with fail
      first
        | (go_quiet (fail); go_wp2_with fail)
        | skip
      go_roundw
      case rel => exact ⟨k + 1, _, by omega, by go_num, rfl⟩
      case measure => simp [intOf]; omega
    · go_wp2_with fail
      go_ret
      exact ⟨rfl, _, rfl⟩
theorem same_any (w : World) (L : List ByteArray) (A1 A2 : Option Addr) (c1 c2 : Nat) (hl : L.length ≤ 1048576) (h1 : SRow w A1 L) (h2 : SRow w A2 L) :
    Calls Tryz.prog 8 #[.slice A1 L.length c1, .slice A2 L.length c2] w fun e w' => e = .returned (.bool true) ∧ ∃ m, w' = w.drewN m := by
  have c := equal_any w L A1 A2 c1 c2 hl h1 h2
  have C := Lib.hid c
  clear c h1 h2
  go_enter Tryz.func8, Tryz.ntmps8
  go_wp2_with fail
  refine C.out.mono ?_; rintro e w1 ⟨rfl, m, rfl⟩
  go_wp2_with fail
  go_ret
  exact ⟨rfl, _, rfl⟩
end Go.Proofs.YthgcmficmodhiaaGreatDoor.NmT
