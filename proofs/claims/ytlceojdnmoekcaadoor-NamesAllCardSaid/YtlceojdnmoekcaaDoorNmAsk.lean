/- The reference's asked, holds, NamesHas. -/
import Derived.Test.YtlceojdnmoekcaaDoorNmOwn
import Derived.Laws.AppendOwnNone
namespace Go.Proofs.YtlceojdnmoekcaaDoor.NmA
open Go.RowKit
open ExM NmM Kit ExL ExP ExV NmC NmP NmR
set_option linter.unusedVariables false

def strV (L : List ByteArray) : List Value := L.map Value.string
theorem strV_len (L : List ByteArray) : (strV L).length = L.length := List.length_map _
theorem strV_append (L M : List ByteArray) : strV (L ++ M) = strV L ++ strV M := List.map_append
theorem strV_one {L : List ByteArray} : ∀ u ∈ strV L, u.oneCell' = true := fun u hu => by
  obtain ⟨s, _, rfl⟩ := List.mem_map.1 hu; rfl
theorem infoStr : (Tryd.prog.info? 9).map (fun i => (i.zero, i.size, i.bytes)) = some (some (.string ⟨#[]⟩), 1, 16) := by kernel_rfl
/-- A list of strings that a call has made. -/
def AskOut (L : List ByteArray) (w : World) (e : Ending) (w' : World) : Prop :=
  ∃ v : Value, e = .returned v ∧ w'.ownsRow w.heap.size 9 1 v L.length (strV L) ∧ Below w.heap.size w w'
structure AInv (w : World) (L : List ByteArray) (v : Value) (wr : World) : Prop where
  own : wr.ownsRow (w.heap.size + 1) 9 1 v L.length (strV L)
  below : Below w.heap.size w wr
  lt : w.heap.size < wr.heap.size
theorem own_src {w : World} {base : Nat} {v : Value} {L : List ByteArray} (h : w.ownsRow base 9 1 v L.length (strV L)) : (v = .slice none 0 0 ∧ L = []) ∨ ∃ g cap, v = .slice (some ⟨g, 0, none⟩) L.length cap ∧ ∀ (j : Nat) (u : Value), (strV L)[j]? = some u → w.cell? ((⟨g, 0, none⟩ : Addr).add j) = some u := by
  rcases h.2 with ⟨h1, h2⟩ | ⟨g, cap, cur, h1, _⟩
  · exact .inl ⟨h1, List.eq_nil_of_length_eq_zero h2⟩
  · subst h1
    refine .inr ⟨g, cap, rfl, fun j u hj => ?_⟩
    have hl := (List.getElem?_eq_some_iff.1 hj).1
    rw [strV_len] at hl
    rw [ExP.add_block, h.cellAt j (by omega), hj]

set_option maxHeartbeats 4000000 in
set_option maxRecDepth 100000 in
theorem asked_any : ∀ (x : Ex) (d : Nd) (A : Option Addr) (m c : Nat) (w : World), x.nodes ≤ 1048576 → Is w x d A m →
    Calls Tryd.prog 32 #[.agg #[.int .i64 d.op, .int .i64 d.k, .int .i64 d.n, .string d.s, .string d.nm, .slice A m c]] w (AskOut (Ex.refs x) w) := by
  obtain ⟨i0, hi, hz0, hz1, hz2⟩ := info_parts infoStr
  refine Ex.ind fun d l ih => ?_
  intro d' A m c w hx his
  rw [is_mk] at his
  obtain ⟨rfl, rfl, ⟨hm, hs1, hs2⟩, his⟩ := his
  have hrn := refs_len (Ex.mk d' l)
  obtain ⟨p0, hp0⟩ : ∃ p0, (if d'.op = 2 then [d'.nm] else []) = p0 := ⟨_, rfl⟩
  have hrf : Ex.refs (.mk d' l) = p0 ++ refsL l := by rw [refs_mk, hp0]
  rw [hrf] at hrn ⊢
  rw [List.length_append] at hrn
  rw [nodes_mk] at hx hrn
  have hlen := len_nodesL l
  have hpl : p0.length ≤ 1 := by rw [← hp0]; split <;> simp
  have HS := Lib.hid his
  have HI := Lib.hid ih
  clear his ih hrf hs1 hs2
  unfold maxLen at hm
  by_cases hop : d'.op = 2
  · rw [if_pos hop] at hp0
    have t0 : (d'.op == 2) = true := beq_iff_eq.2 hop
    have hV0 : ∀ v' w1 o1 o2, w1.ownsRow (w.heap.size + 1) 9 1 v' (0 + 1) ([] ++ [.string d'.nm]) → ((w.alloc o1).alloc o2).grownBy w1 (Value.slice none 0 0).ownBlock → AInv w (p0 ++ refsL (l.take 0)) v' w1 := fun v' w1 o1 o2 h1 h2 => by
      refine ⟨?_, (b_more (b_new w o1) o2).grown h2 (by simp; omega) (fun k e => by cases e), by have := h2.size; simp at this; omega⟩
      rw [← hp0, List.take_zero, refsL_nil]
      exact h1
    have HV0 := Lib.hid hV0
    clear hp0 hop hV0
    go_enter Tryd.func32, Tryd.ntmps32
    go_wp2_with (at_builtin; refine wpList_append_own _ rfl _ _ 27 rfl (w.heap.size + 1) 9 i0 (.string ⟨#[]⟩) 1 16 Tryd.underlying27 hi hz0 hz1 hz2 rfl (by decide) (.slice none 0 0) 0 [] rfl (World.ownsRow_nil _ _ _ _) ⟨w.heap.size + 1, 0, none⟩ 1 1 [.string d'.nm] rfl rfl ?c1 ?c2 ?c3 ?c4 ?c5 ?_)
    case c1 =>
      intro j u hj
      match j, hj with
      | 0, hj => simp at hj; subst hj; simp [Addr.add]
    case c2 => intro u hu; simp at hu; subst hu; rfl
    case c3 => decide
    case c4 => decide
    case c5 => simp
    intro v1 w1 hown hgrow _
    have hV := HV0.out v1 w1 _ _ hown hgrow
    have x5 : w1.cell? ⟨w.heap.size, 5, none⟩ = some (.slice A l.length c) := by
      rw [World.cell?_of_block (w := ((w.alloc (.cells #[.int .i64 d'.op, .int .i64 d'.k, .int .i64 d'.n, .string d'.s, .string d'.nm, .slice A l.length c] 26)).alloc (.cells #[.string d'.nm] 9))) (hgrow.block _ (by simp; omega) (fun e => by cases e))]
      simp
    have HV := Lib.hid hV
    clear hV hown hgrow HV0 t0
    go_wp2_with fail
    go_loopw [3, 5, 17] (fun v _ i wr => ∃ (k : Nat) (v' : Value), v' = v ∧ i = .int .i64 k ∧ k ≤ l.length ∧ AInv w (p0 ++ refsL (l.take k)) v' wr) (fun _ _ i _ => l.length - (intOf i).toNat)
    case atStart => exact ⟨0, _, rfl, rfl, Nat.zero_le _, HV.out⟩
    case round =>
      obtain ⟨k, v, rfl, rfl, hk, hI⟩ := hrel
      have HI2 := Lib.hid hI
      have hbs := hI.below.size
      have hwl := hI.lt
      by_cases hlt : k < l.length
      · obtain ⟨a, d2, B, m2, c2, rfl, hat, hi2⟩ := HS.out k hlt
        obtain ⟨h0, h1, h2, h3, h4, h5⟩ := hat.below hI.below
        have hal := cell_lt' h0
        have hc := HI.out _ (List.getElem_mem hlt) d2 B m2 c2 (wr.alloc (.cells #[.int .i64 d2.op, .int .i64 d2.k, .int .i64 d2.n, .string d2.s, .string d2.nm, .slice B m2 c2] 26)) (by have := nodes_mem (List.getElem_mem hlt); omega) ((hi2.below hI.below).alloc _)
        have e2 := refsL_at l k hlt
        have e3 := refsL_take l (k + 1)
        obtain ⟨M, hM⟩ : ∃ M, Ex.refs l[k] = M := ⟨_, rfl⟩
        obtain ⟨N, hN⟩ : ∃ N, p0 ++ refsL (l.take k) = N := ⟨_, rfl⟩
        rw [hM] at hc e2
        rw [e2, List.length_append] at e3
        have e4 : p0 ++ refsL (l.take (k + 1)) = N ++ M := by rw [e2, ← List.append_assoc, hN]
        have e5 : N.length = p0.length + (refsL (l.take k)).length := by rw [← hN, List.length_append]
        have hNM : N.length + M.length ≤ 1048577 := by omega
        rw [hN] at hI
        have HC := Lib.hid hc
        have HE4 := Lib.hid e4
        have HO := Lib.hid hI.own
        clear hc hi2 hat e2 e3 e4 e5 hM hN hI
        go_wp2_with fail
        refine HC.out.mono ?_; rintro e w2 ⟨v2, rfl, hown2, hb2⟩
        have hb3 : Below wr.heap.size wr w2 := b_then hb2
        have hs3 := hb3.size
        have ho1 := NmR.own_below HO.out hb3
        have HO1 := Lib.hid ho1
        have HB3 := Lib.hid hb3
        have HN2 : ∀ v' W', W'.ownsRow (w.heap.size + 1) 9 1 v' (N.length + M.length) (strV N ++ strV M) → w2.grownBy W' v.ownBlock → AInv w (p0 ++ refsL (l.take (k + 1))) v' W' := fun v' W' q1 q2 => by
          rw [HE4.out]
          refine ⟨by rw [List.length_append, strV_append]; exact q1, ?_, by have := q2.size; omega⟩
          exact ((HI2.out.below).trans (hb3.mono hbs)).grown q2 (by omega) (fun g e => by have := (HI2.out.own.lt g e).1; omega)
        have HN3 := Lib.hid HN2
        rcases own_src hown2 with ⟨rfl, hM0⟩ | ⟨g2, cap2, rfl, hsrc⟩
        · have hfin : AInv w (p0 ++ refsL (l.take (k + 1))) v w2 := HN3.out v w2 (by rw [hM0]; simpa [strV] using ho1) ⟨rfl, rfl, rfl, Nat.le_refl _, fun _ _ _ => rfl⟩
          have HF := Lib.hid hfin
          clear hfin HN2 HN3 hown2 hb2 hb3 hM0 h0 h1 h2 h3 h4 h5
          go_wp2_with (at_builtin; refine wpList_append_own_none rfl _ _ 27 rfl (w.heap.size + 1) 9 i0 1 Tryd.underlying27 hi v N.length (strV N) rfl ho1 rfl ?_)
          go_roundw
          case rel => exact ⟨k + 1, _, rfl, by go_num, by omega, HF.out⟩
          case measure => simp [intOf]; omega
        · clear HN2 hown2 hb2 hb3 h0 h1 h2 h3 h4 h5
          go_wp2_with (at_builtin; refine wpList_append_own _ rfl _ _ 27 rfl (w.heap.size + 1) 9 i0 (.string ⟨#[]⟩) 1 16 Tryd.underlying27 hi hz0 hz1 hz2 rfl (by decide) v N.length (strV N) rfl ho1 ⟨g2, 0, none⟩ M.length cap2 (strV M) rfl (by rw [strV_len]; omega) hsrc strV_one (by unfold maxLen; omega) (by omega) (by omega) ?_; intro v3 w3 hown3 hgrow3 _)
          have hF := HN3.out v3 w3 hown3 hgrow3
          have HF := Lib.hid hF
          clear hF hown3 hgrow3 hsrc ho1
          go_wp2_with fail
          go_roundw
          case rel => exact ⟨k + 1, _, rfl, by go_num, by omega, HF.out⟩
          case measure => simp [intOf]; omega
      · have hkl : k = l.length := by omega
        subst hkl
        clear HI2
        go_wp2_with fail
        go_ret
        rw [List.take_length] at hI
        exact ⟨_, rfl, own_base hI.own (by omega), hI.below⟩
  · rw [if_neg hop] at hp0
    have t0 : (d'.op == 2) = false := beq_eq_false_iff_ne.2 hop
    have hV0 : ∀ o1, AInv w (p0 ++ refsL (l.take 0)) (.slice none 0 0) (w.alloc o1) := fun o1 => by
      refine ⟨?_, b_new w o1, by simp⟩
      rw [← hp0, List.take_zero, refsL_nil]
      exact World.ownsRow_nil _ _ _ _
    have HV := Lib.hid (hV0 (.cells #[.int .i64 d'.op, .int .i64 d'.k, .int .i64 d'.n, .string d'.s, .string d'.nm, .slice A l.length c] 26))
    clear hp0 hop hV0
    go_enter Tryd.func32, Tryd.ntmps32
    go_wp2_with fail
    go_loopw [3, 5, 17] (fun v _ i wr => ∃ (k : Nat) (v' : Value), v' = v ∧ i = .int .i64 k ∧ k ≤ l.length ∧ AInv w (p0 ++ refsL (l.take k)) v' wr) (fun _ _ i _ => l.length - (intOf i).toNat)
    case atStart => exact ⟨0, _, rfl, rfl, Nat.zero_le _, HV.out⟩
    case round =>
      obtain ⟨k, v, rfl, rfl, hk, hI⟩ := hrel
      have HI2 := Lib.hid hI
      have hbs := hI.below.size
      have hwl := hI.lt
      by_cases hlt : k < l.length
      · obtain ⟨a, d2, B, m2, c2, rfl, hat, hi2⟩ := HS.out k hlt
        obtain ⟨h0, h1, h2, h3, h4, h5⟩ := hat.below hI.below
        have hal := cell_lt' h0
        have hc := HI.out _ (List.getElem_mem hlt) d2 B m2 c2 (wr.alloc (.cells #[.int .i64 d2.op, .int .i64 d2.k, .int .i64 d2.n, .string d2.s, .string d2.nm, .slice B m2 c2] 26)) (by have := nodes_mem (List.getElem_mem hlt); omega) ((hi2.below hI.below).alloc _)
        have e2 := refsL_at l k hlt
        have e3 := refsL_take l (k + 1)
        obtain ⟨M, hM⟩ : ∃ M, Ex.refs l[k] = M := ⟨_, rfl⟩
        obtain ⟨N, hN⟩ : ∃ N, p0 ++ refsL (l.take k) = N := ⟨_, rfl⟩
        rw [hM] at hc e2
        rw [e2, List.length_append] at e3
        have e4 : p0 ++ refsL (l.take (k + 1)) = N ++ M := by rw [e2, ← List.append_assoc, hN]
        have e5 : N.length = p0.length + (refsL (l.take k)).length := by rw [← hN, List.length_append]
        have hNM : N.length + M.length ≤ 1048577 := by omega
        rw [hN] at hI
        have HC := Lib.hid hc
        have HE4 := Lib.hid e4
        have HO := Lib.hid hI.own
        clear hc hi2 hat e2 e3 e4 e5 hM hN hI
        go_wp2_with fail
        refine HC.out.mono ?_; rintro e w2 ⟨v2, rfl, hown2, hb2⟩
        have hb3 : Below wr.heap.size wr w2 := b_then hb2
        have hs3 := hb3.size
        have ho1 := NmR.own_below HO.out hb3
        have HO1 := Lib.hid ho1
        have HB3 := Lib.hid hb3
        have HN2 : ∀ v' W', W'.ownsRow (w.heap.size + 1) 9 1 v' (N.length + M.length) (strV N ++ strV M) → w2.grownBy W' v.ownBlock → AInv w (p0 ++ refsL (l.take (k + 1))) v' W' := fun v' W' q1 q2 => by
          rw [HE4.out]
          refine ⟨by rw [List.length_append, strV_append]; exact q1, ?_, by have := q2.size; omega⟩
          exact ((HI2.out.below).trans (hb3.mono hbs)).grown q2 (by omega) (fun g e => by have := (HI2.out.own.lt g e).1; omega)
        have HN3 := Lib.hid HN2
        rcases own_src hown2 with ⟨rfl, hM0⟩ | ⟨g2, cap2, rfl, hsrc⟩
        · have hfin : AInv w (p0 ++ refsL (l.take (k + 1))) v w2 := HN3.out v w2 (by rw [hM0]; simpa [strV] using ho1) ⟨rfl, rfl, rfl, Nat.le_refl _, fun _ _ _ => rfl⟩
          have HF := Lib.hid hfin
          clear hfin HN2 HN3 hown2 hb2 hb3 hM0 h0 h1 h2 h3 h4 h5
          go_wp2_with (at_builtin; refine wpList_append_own_none rfl _ _ 27 rfl (w.heap.size + 1) 9 i0 1 Tryd.underlying27 hi v N.length (strV N) rfl ho1 rfl ?_)
          go_roundw
          case rel => exact ⟨k + 1, _, rfl, by go_num, by omega, HF.out⟩
          case measure => simp [intOf]; omega
        · clear HN2 hown2 hb2 hb3 h0 h1 h2 h3 h4 h5
          go_wp2_with (at_builtin; refine wpList_append_own _ rfl _ _ 27 rfl (w.heap.size + 1) 9 i0 (.string ⟨#[]⟩) 1 16 Tryd.underlying27 hi hz0 hz1 hz2 rfl (by decide) v N.length (strV N) rfl ho1 ⟨g2, 0, none⟩ M.length cap2 (strV M) rfl (by rw [strV_len]; omega) hsrc strV_one (by unfold maxLen; omega) (by omega) (by omega) ?_; intro v3 w3 hown3 hgrow3 _)
          have hF := HN3.out v3 w3 hown3 hgrow3
          have HF := Lib.hid hF
          clear hF hown3 hgrow3 hsrc ho1
          go_wp2_with fail
          go_roundw
          case rel => exact ⟨k + 1, _, rfl, by go_num, by omega, HF.out⟩
          case measure => simp [intOf]; omega
      · have hkl : k = l.length := by omega
        subst hkl
        clear HI2
        go_wp2_with fail
        go_ret
        rw [List.take_length] at hI
        exact ⟨_, rfl, own_base hI.own (by omega), hI.below⟩

/-- A slice that holds these strings. -/
def SRow (w : World) (A : Option Addr) (L : List ByteArray) : Prop := ∀ (j : Nat) (h : j < L.length), ∃ g, A = some ⟨g, 0, none⟩ ∧ w.cell? ⟨g, j, none⟩ = some (.string L[j])
theorem SRow.of_own {w : World} {base : Nat} {v : Value} {L : List ByteArray} (h : w.ownsRow base 9 1 v L.length (strV L)) : ∃ A c, v = .slice A L.length c ∧ SRow w A L := by
  rcases h.2 with ⟨h1, h2⟩ | ⟨g, cap, cur, h1, _⟩
  · exact ⟨none, 0, by rw [h1, h2], fun j hj => by omega⟩
  · subst h1
    refine ⟨some ⟨g, 0, none⟩, cap, rfl, fun j hj => ⟨g, rfl, ?_⟩⟩
    rw [h.cellAt j (by omega), List.getElem?_eq_getElem (by rw [strV_len]; exact hj)]
    unfold strV; rw [List.getElem_map]
theorem hasB_take (L : List ByteArray) (s : ByteArray) (k : Nat) (h : k < L.length) : hasB (L.take (k + 1)) s = (hasB (L.take k) s || decide (L[k] = s)) := by
  rw [take_at L k h, hasB_append, hasB_cons, hasB_nil, Bool.or_false]
theorem hasB_of_take {L : List ByteArray} {s : ByteArray} {k : Nat} (h : hasB (L.take k) s = true) : hasB L s = true := hasB_prefix (List.take_prefix k L) h

set_option maxHeartbeats 1000000 in
theorem holds_any (L : List ByteArray) (s : ByteArray) (A : Option Addr) (c : Nat) (w : World) (hn : L.length ≤ 1048576) (h : SRow w A L) :
    Calls Tryd.prog 33 #[.slice A L.length c, .string s] w fun e w' => e = .returned (.bool (hasB L s)) ∧ w = w' := by
  obtain ⟨R, hR⟩ : ∃ R, hasB L s = R := ⟨_, rfl⟩
  rw [hR]
  have HR := Lib.hid hR
  have HH := Lib.hid h
  clear hR h
  go_enter Tryd.func33, Tryd.ntmps33
  go_wp2_with fail
  go_loopw [6, 9] (fun _ i wr => ∃ k : Nat, k ≤ L.length ∧ i = .int .i64 k ∧ wr = w ∧ hasB (L.take k) s = false) (fun _ i _ => L.length - (intOf i).toNat)
  case atStart => exact ⟨0, by omega, rfl, rfl, rfl⟩
  case round =>
    obtain ⟨k, hk, rfl, rfl, hf⟩ := hrel
    by_cases hlt : k < L.length
    · obtain ⟨g, rfl, hc⟩ := HH.out k hlt
      obtain ⟨t, ht⟩ : ∃ t, L[k] = t := ⟨_, rfl⟩
      have hsn := hasB_take L s k hlt
      rw [hf, Bool.false_or] at hsn
      rw [ht] at hc hsn
      clear hf ht
      by_cases he : t = s
      · have t1 : (t.toList == s.toList) = true := by rw [eqs_of]; exact decide_eq_true he
        rw [decide_eq_true he] at hsn
        obtain rfl : R = true := by rw [← HR.out]; exact hasB_of_take hsn
        clear hsn he
        go_wp2_with fail
        go_ret
        exact ⟨rfl, rfl⟩
      · have t1 : (t.toList == s.toList) = false := by rw [eqs_of]; exact decide_eq_false he
        rw [decide_eq_false he] at hsn
        have HSn := Lib.hid hsn
        clear hsn he
        go_wp2_with fail
        go_roundw
        case rel => exact ⟨k + 1, by omega, by go_num, by first | trivial | rfl, HSn.out⟩
        case measure => simp [intOf]; omega
    · have hkl : k = L.length := by omega
      obtain rfl : R = false := by rw [← HR.out, ← hf, hkl, List.take_length]
      clear hkl hf
      go_wp2_with fail
      go_ret
      exact ⟨rfl, rfl⟩

set_option maxHeartbeats 1000000 in
theorem refHas_any (x : Ex) (n : ByteArray) (d : Nd) (A : Option Addr) (m c : Nat) (w : World) (hx : x.nodes ≤ 1048576) (his : Is w x d A m) :
    Calls Tryd.prog 10 #[.agg #[.int .i64 d.op, .int .i64 d.k, .int .i64 d.n, .string d.s, .string d.nm, .slice A m c], .string n] w fun e w' => e = .returned (.bool (hasB (Ex.refs x) n)) ∧ Below w.heap.size w w' := by
  have hc := fun V (hb : Below w.heap.size w V) => asked_any x d A m c V hx (his.below hb)
  have hl := refs_len x
  obtain ⟨L, hL⟩ : ∃ L, Ex.refs x = L := ⟨_, rfl⟩
  rw [hL] at hc hl ⊢
  obtain ⟨R, hR⟩ : ∃ R, hasB L n = R := ⟨_, rfl⟩
  rw [hR]
  have HC := Lib.hid hc
  have HR := Lib.hid hR
  clear hc his hL hR
  go_enter Tryd.func10, Tryd.ntmps10
  go_wp2_with fail
  refine (HC.out _ (b_new w _)).mono ?_; rintro e w1 ⟨v, rfl, hown, hb⟩
  obtain ⟨A1, c1, rfl, hr⟩ := SRow.of_own hown
  have h2 := holds_any L n A1 c1 w1 (by omega) hr
  rw [HR.out] at h2
  have H2 := Lib.hid h2
  have HB := Lib.hid (b_then hb)
  clear hown hr hb h2
  go_wp2_with fail
  refine H2.out.mono ?_; rintro e w2 ⟨rfl, rfl⟩
  go_wp2_with fail
  go_ret
  exact ⟨rfl, HB.out⟩
end Go.Proofs.YtlceojdnmoekcaaDoor.NmA
