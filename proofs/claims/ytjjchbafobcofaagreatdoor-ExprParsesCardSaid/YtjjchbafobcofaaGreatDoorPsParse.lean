/- expr.Parse. -/
import Derived.Test.YtjjchbafobcofaaGreatDoorPsParsed
import Derived.Test.YtjjchbafobcofaaGreatDoorPsLeaf
import Derived.Test.YtjjchbafobcofaaGreatDoorLex
import Derived.Test.YtjjchbafobcofaaGreatDoorExCheck
namespace Go.Proofs.YtjjchbafobcofaaGreatDoor.PsE
open Go.RowKit
open LexM ExM Kit ExL ExP PsM PsT NmC Ps PsR PsL PsA PsF PsT2 PsD PsLx PsLf
set_option linter.unusedVariables false

theorem tksC_get (l : List Tk) : ∀ (i : Nat) (h : i < l.length) (j : Nat), j < 6 → (Lex.tksC l)[i * 6 + j]? = (Ps.tkC l[i])[j]? := by
  intro i h j hj
  have hx : l.drop i = l[i] :: l.drop (i + 1) := List.drop_eq_getElem_cons h
  have e : l = l.take i ++ (l[i] :: l.drop (i + 1)) := by rw [← hx, List.take_append_drop]
  have e2 : Lex.tksC l = Lex.tksC (l.take i) ++ (Ps.tkC l[i] ++ Lex.tksC (l.drop (i + 1))) := by
    conv => lhs; rw [e]
    unfold Lex.tksC
    rw [List.flatMap_append, List.flatMap_cons]; rfl
  have e3 : (Lex.tksC (l.take i)).length = i * 6 := by rw [Lex.tksC_len, List.length_take]; rw [Nat.min_eq_left (by omega)]
  rw [e2, List.getElem?_append_right (by rw [e3]; omega), e3, show i * 6 + j - i * 6 = j by omega, List.getElem?_append_left (by show j < 6; exact hj)]
theorem env_of {w1 : World} {base : Nat} {l : List UInt8} {ts : List Tk} {A : Option Addr} {c : Nat} (hlen : l.length ≤ 160) (htk : tokens l 0 = .ok ts) (ho : w1.ownsRow base 42 6 (.slice A ts.length c) ts.length (Lex.tksC ts)) (hT : ExN.Tab w1) (hv : Parse.Vars w1) : ∀ P, w1.heap.size ≤ P → Env w1 P A ts := fun P hP => by
  refine ⟨Nat.le_trans (few l 0 ts htk) hlen, fun i h => ?_, hP, hT, fun t ht W hb => leaf_any t (tok_facts l 0 ts htk t ht).2.2.2 W (hv.below hb)⟩
  obtain ⟨g, cap, hA, _, _, _, _, q⟩ := Lex.own_form ho (by omega)
  injection hA with hA _ _
  exact ⟨g, hA, fun j hj => by rw [q (i * 6 + j) (by omega), tksC_get ts i h j hj]⟩
theorem full_of {l : List UInt8} {ts : List Tk} (htk : tokens l 0 = .ok ts) : Full ts := fun t ht => (tok_facts l 0 ts htk t ht).1
theorem small_of {l : List UInt8} {ts : List Tk} (hlen : l.length ≤ 160) (htk : tokens l 0 = .ok ts) : Small ts := fun t ht => by
  obtain ⟨_, h1, h2, _⟩ := tok_facts l 0 ts htk t ht
  exact ⟨by omega, by omega⟩

def x0 : Ex := .mk ⟨0, 0, 0, ⟨#[]⟩, ⟨#[]⟩⟩ []
/-- What a formula's notation is: the formula, the offset, the error. -/
def PR (l : List UInt8) (x : Ex) (a er : Int) : Prop :=
  (∃ (p : Nat) (e : Int), lexR l = ([], p, e) ∧ e ≠ 0 ∧ x = x0 ∧ a = p ∧ er = e) ∨
  ∃ ts o, lexR l = (ts, 0, 0) ∧ Ev (.form 0) ts o ∧ ((∃ y, o = .ok [y] [] ∧ a = 0 ∧ er = y.checkE ∧ x = if y.checkE = 0 then y else x0) ∨ ∃ r, ((∃ y, o = .ok [y] r ∧ r ≠ []) ∨ o = .bad r) ∧ a = atOf l.length r ∧ er = 3 ∧ x = x0)

set_option maxRecDepth 100000 in
set_option maxHeartbeats 8000000 in
theorem Parse_any (s : ByteArray) (w : World) (hs : s.size ≤ 140737488351232) (hv : LexT.Vars w) (hp : Parse.Vars w) (hT : ExN.Tab w) :
    Calls Tryz.prog 4 #[.string s] w (ParsedOut w (PR s.data.toList)) := by
  obtain ⟨W, hW⟩ : ∃ W, w.alloc (.cells #[.int .i64 0, .int .i64 0, .int .i64 0, .string ⟨#[]⟩, .string ⟨#[]⟩, .slice none 0 0] 26) = W := ⟨_, rfl⟩
  have hb : Below w.heap.size w W := by rw [← hW]; exact b_new _ _
  have hsz : W.heap.size = w.heap.size + 1 := by rw [← hW]; simp
  have h1 : W.heap[w.heap.size]? = some (.cells #[.int .i64 0, .int .i64 0, .int .i64 0, .string ⟨#[]⟩, .string ⟨#[]⟩, .slice none 0 0] 26 (0, 0)) := by rw [← hW]; exact World.alloc_heap_new w _
  have hc := Lex.tokens_any s W hs (hv.below hb)
  have hL := Lex.lex_cases s.data.toList
  obtain ⟨R, hR⟩ : ∃ R, PR s.data.toList = R := ⟨_, rfl⟩
  have HW := Lib.hid hW
  have HC := Lib.hid hc
  have HL := Lib.hid hL
  have HR := Lib.hid hR
  rw [hR]
  clear hW hc hL hR
  go_enter Tryz.func4, Tryz.ntmps4
  go_upto_region 1 with fail
  rw [HW.out]
  go_wp2_with fail
  refine HC.out.mono ?_
  rintro e w1 ⟨v, rfl, ho, hb1⟩
  have k1 := (hb1.block _ (by omega)).trans h1
  have hB1 : Below w.heap.size w w1 := hb.trans (hb1.mono hb.size)
  obtain ⟨c1, f1⟩ := cells_of k1
  have l1 := (Array.getElem?_eq_some_iff.1 k1).1
  clear HC h1 HW
  have hcases : (∃ ts, s.data.toList.length ≤ 160 ∧ tokens s.data.toList 0 = .ok ts ∧ lexR s.data.toList = (ts, 0, 0)) ∨ ∃ (p : Nat) (e : Int), lexR s.data.toList = ([], p, e) ∧ e ≠ 0 := by
    rcases HL.out with h | ⟨_, h⟩ | ⟨p, e, ts, _, _, he, h, _⟩
    · exact .inl h
    · exact .inr ⟨_, _, h, by decide⟩
    · exact .inr ⟨p, e, h, by rcases he with rfl | rfl | rfl <;> decide⟩
  clear HL
  rcases hcases with ⟨ts, hlen, htk, hl⟩ | ⟨p, e, hl, he⟩
  · rw [hl] at ho ⊢
    dsimp only
    obtain ⟨A, c, rfl⟩ := Lex.own_slice ho
    have hE := env_of hlen htk ho (hT.below hB1) (hp.below hB1)
    obtain ⟨o, hev, hsh⟩ := PsTot.form_total ts
    have hP := parsed_any ts A c (s.size : Int) w1 hE (full_of htk) (small_of hlen htk) o hev hsh
    unfold ParsedOut at hP
    have HP := Lib.hid hP
    have HB1 := Lib.hid hB1
    have HEv := Lib.hid hev
    have K1 := Lib.hid k1
    clear ho hb hb1 hB1 k1 hE hP hev hsh
    go_wp2_with fail
    refine HP.out.mono ?_
    rintro e w2 ⟨x, d, B, m, cp, a, er, rfl, hix, hR2, hb2⟩
    have k2 := (hb2.block _ l1).trans K1.out
    obtain ⟨c2, f2⟩ := cells_of k2
    have l2 := (Array.getElem?_eq_some_iff.1 k2).1
    have hbw2 : Below w.heap.size w w2 := HB1.out.trans (hb2.mono HB1.out.size)
    obtain ⟨WS, hWS⟩ : ∃ W, S6 w2 w.heap.size (.int .i64 d.op) (.int .i64 d.k) (.int .i64 d.n) (.string d.s) (.string d.nm) (.slice B m cp) = W := ⟨_, rfl⟩
    have cS := set6_box k2 (.int .i64 d.op) (.int .i64 d.k) (.int .i64 d.n) (.string d.s) (.string d.nm) (.slice B m cp)
    have hh := fun b (hb : b ≠ w.heap.size) => s6_heap w2 w.heap.size b hb (.int .i64 d.op) (.int .i64 d.k) (.int .i64 d.n) (.string d.s) (.string d.nm) (.slice B m cp)
    have hgS := s6_grown w2 w.heap.size (.int .i64 d.op) (.int .i64 d.k) (.int .i64 d.n) (.string d.s) (.string d.nm) (.slice B m cp)
    rw [hWS] at cS hh hgS
    have hbS : Below w.heap.size w WS := hbw2.grown hgS hbw2.size (fun j e => by injection e with e; omega)
    have hixS : IsP (fun b => w.heap.size < b) WS x d B m := IsP.keep (fun b hb _ => hh b (by have h1 : w1.heap.size ≤ b := hb; omega)) (fun b hb _ => by have h1 : w1.heap.size ≤ b := hb; show w.heap.size < b; omega) _ _ _ _ hix
    have hck := ExC.check_any x d B m cp WS (IsP.is _ _ _ _ hixS) (hT.below hbS)
    obtain ⟨q, hq⟩ : ∃ q, x.checkE = q := ⟨_, rfl⟩
    rw [hq] at hck
    have HCK := Lib.hid hck
    have HWS := Lib.hid hWS
    have HBS := Lib.hid hbS
    have CS := Lib.hid cS
    have HIX := Lib.hid hixS
    have lS := (Array.getElem?_eq_some_iff.1 cS).1
    clear hck hWS hbS cS hh hgS hixS hix hb2 k2 hbw2 HP c1 f1 l1 K1 HB1
    rcases hR2 with ⟨ho, rfl, rfl⟩ | ⟨r, hr, rfl, rfl⟩
    · go_upto_region 6 with fail
      unfold S6 at HWS
      rw [HWS.out]
      obtain ⟨c3, f3⟩ := cells_of CS.out
      clear c2 f2 l2 HWS
      go_wp2_with fail
      refine HCK.out.mono ?_
      rintro e w3 ⟨rfl, hb3⟩
      have k4 := (hb3.block _ lS).trans CS.out
      obtain ⟨c4, f4⟩ := cells_of k4
      have l4 := (Array.getElem?_eq_some_iff.1 k4).1
      have HB3 := Lib.hid (HBS.out.trans (hb3.mono HBS.out.size))
      have HI3 := Lib.hid (HIX.out.below hb3)
      clear c3 f3 hb3 k4 HCK HIX HBS lS CS
      by_cases hq0 : q = 0
      · subst hq0
        go_wp2_with fail
        refine bodyPost_ret (v := .tuple #[.agg #[.int .i64 d.op, .int .i64 d.k, .int .i64 d.n, .string d.s, .string d.nm, .slice B m cp], .int .i64 0, .int .i64 0]) (by simp [results, Tryz.results4, go_sem, c4]) rfl ⟨x, d, B, m, cp, 0, 0, rfl, ?_, ?_, LexT.b_set6 HB3.out _ (Nat.le_refl _) _ _ _ _ _ _⟩
        · exact IsP.keep (fun b hb _ => s6_heap w3 w.heap.size b (by have h1 : w.heap.size < b := hb; omega) _ _ _ _ _ _) (fun b hb _ => Nat.le_of_lt hb) _ _ _ _ HI3.out
        · rw [← HR.out]; exact .inr ⟨ts, o, hl, HEv.out, .inl ⟨x, ho, rfl, hq.symm, by rw [hq, if_pos rfl]⟩⟩
      · have e1 : (q == 0) = false := beq_eq_false_iff_ne.2 hq0
        go_wp2_with fail
        refine bodyPost_ret (v := .tuple #[.agg #[.int .i64 0, .int .i64 0, .int .i64 0, .string ⟨#[]⟩, .string ⟨#[]⟩, .slice none 0 0], .int .i64 0, .int .i64 q]) (by simp [results, Tryz.results4, go_sem, c4]) rfl ⟨x0, ⟨0, 0, 0, ⟨#[]⟩, ⟨#[]⟩⟩, none, 0, 0, _, _, rfl, isP_leaf _ _ _ _ (Nat.zero_le _) (Nat.zero_le _), ?_, LexT.b_set6 HB3.out _ (Nat.le_refl _) _ _ _ _ _ _⟩
        exact (by rw [← HR.out]; exact .inr ⟨ts, o, hl, HEv.out, .inl ⟨x, ho, rfl, hq.symm, by rw [hq, if_neg hq0]⟩⟩)
    · go_upto_region 8 with fail
      unfold S6 at HWS
      rw [HWS.out]
      obtain ⟨c3, f3⟩ := cells_of CS.out
      clear c2 f2 l2 HWS HCK
      go_wp2_with fail
      refine bodyPost_ret (v := .tuple #[.agg #[.int .i64 0, .int .i64 0, .int .i64 0, .string ⟨#[]⟩, .string ⟨#[]⟩, .slice none 0 0], .int .i64 (atOf (s.size : Int) r), .int .i64 3]) (by simp [results, Tryz.results4, go_sem, c3]) rfl ⟨x0, ⟨0, 0, 0, ⟨#[]⟩, ⟨#[]⟩⟩, none, 0, 0, _, _, rfl, isP_leaf _ _ _ _ (Nat.zero_le _) (Nat.zero_le _), ?_, LexT.b_set6 HBS.out _ (Nat.le_refl _) _ _ _ _ _ _⟩
      exact (by rw [← HR.out]; exact .inr ⟨ts, o, hl, HEv.out, .inr ⟨r, hr, rfl, rfl, rfl⟩⟩)
  · rw [hl] at ho ⊢
    have HB1 := Lib.hid hB1
    clear ho hb hb1 hB1 k1
    have e1 : (e == 0) = false := beq_eq_false_iff_ne.2 he
    dsimp only
    go_wp2_with fail
    refine bodyPost_ret (v := .tuple #[.agg #[.int .i64 0, .int .i64 0, .int .i64 0, .string ⟨#[]⟩, .string ⟨#[]⟩, .slice none 0 0], .int .i64 (p : Int), .int .i64 e]) (by simp [results, Tryz.results4, go_sem, c1]) rfl ⟨x0, ⟨0, 0, 0, ⟨#[]⟩, ⟨#[]⟩⟩, none, 0, 0, _, _, rfl, isP_leaf _ _ _ _ (Nat.zero_le _) (Nat.zero_le _), ?_, LexT.b_set6 HB1.out _ (Nat.le_refl _) _ _ _ _ _ _⟩
    exact (by rw [← HR.out]; exact .inl ⟨p, e, hl, he, rfl, rfl, rfl⟩)
end Go.Proofs.YtjjchbafobcofaaGreatDoor.PsE
