/- strings.Join on the texts of tokens, slices.EqualFunc on tokens that differ in their offsets alone. -/
import Derived.Test.YtjpajgpconejhaaDoorLexSame
import Derived.Test.YtjpajgpconejhaaDoorShelfMore
namespace Go.Proofs.YtjpajgpconejhaaDoor.LexJoin
open Go.RowKit
open LexM LexB LexT Lex LexSame Kit
set_option linter.unusedVariables false

theorem joined_is : ∀ xs : List (List UInt8), Lib.join xs [32] = joined xs
  | [] => rfl
  | [s] => Lib.join_one s [32]
  | s :: t :: r => by
    have ih := joined_is (t :: r)
    unfold Lib.join List.intercalate at ih ⊢
    rw [joined, ← ih]
    simp
theorem joined_le : ∀ xs : List (List UInt8), (joined xs).length ≤ (xs.map fun x => x.length + 1).sum
  | [] => by simp [joined]
  | [s] => by simp [joined]
  | s :: t :: r => by
    have ih := joined_le (t :: r)
    rw [joined, List.length_append, List.length_cons, List.map_cons, List.sum_cons]
    omega
theorem joined_tokens (l : List UInt8) (p : Nat) : ∀ ts, tokens l p = .ok ts → ((ts.map Tk.s).map fun x => x.length + 1).sum ≤ 2 * l.length := by
  refine tokens_ind (M := fun l _ r => ∀ ts, r = .ok ts → ((ts.map Tk.s).map fun x => x.length + 1).sum ≤ 2 * l.length) ?_ ?_ ?_ ?_ l.length l p (Nat.le_refl _)
  · intro p ts h; injection h with h; subst h; simp
  · intro r p ih ts h; have := ih ts h; simp only [List.length_cons]; omega
  · intro c r p e _ _ ts h; cases h
  · intro c r p t hc ht ih ts h
    have hl := first_len ht
    cases hr : tokens ((c :: r).drop t.len) (p + t.len) with
    | bad q e => rw [hr] at h; cases h
    | ok us =>
      rw [hr] at h; injection h with h; subst h
      have := ih us hr
      have e : (LexM.mk t p (c :: r)).s.length = t.len := by
        show ((c :: r).take t.len).length = _
        rw [List.length_take]; omega
      rw [List.map_cons, List.map_cons, List.sum_cons, e]
      rw [List.length_drop] at this
      omega
/-- What joining the texts of the tokens of a text gives. -/
theorem lex_apart {l : List UInt8} {ts : List Tk} (hl : l.length ≤ 160) (h : tokens l 0 = .ok ts) : (joined (ts.map Tk.s)).length ≤ 320 ∧ (160 < (joined (ts.map Tk.s)).length ∧ lexR (joined (ts.map Tk.s)) = ([], 0, 1) ∨
    (joined (ts.map Tk.s)).length ≤ 160 ∧ ∃ us, lexR (joined (ts.map Tk.s)) = (us, 0, 0) ∧ us.map Tk.bare = ts.map Tk.bare) := by
  refine ⟨?_, ?_⟩
  · have h1 := joined_le (ts.map Tk.s)
    have h2 := joined_tokens l 0 ts h
    omega
  · by_cases g : 160 < (joined (ts.map Tk.s)).length
    · exact .inl ⟨g, lexR_long g⟩
    · obtain ⟨us, h1, h2⟩ := apart l 0 ts h 0
      exact .inr ⟨by omega, us, by rw [lexR_of (by omega), h1]; rfl, h2⟩

def strC (x : Tk) : Value := .string ⟨x.s.toArray⟩
theorem own_ne {w : World} {b1 b2 : Nat} {e1 e2 : TypeId} {s1 s2 : Nat} {v1 v2 : Value} {n1 n2 : Nat} {x1 x2 : List Value} (h1 : w.ownsRow b1 e1 s1 v1 n1 x1) (h2 : w.ownsRow b2 e2 s2 v2 n2 x2) (hne : e1 ≠ e2) : v1.ownBlock = none ∨ v1.ownBlock ≠ v2.ownBlock := by
  rcases h1.2 with ⟨rfl, _⟩ | ⟨g, cap, cur, rfl, _, hg, _⟩
  · exact .inl rfl
  · right
    rcases h2.2 with ⟨rfl, _⟩ | ⟨g', cap', cur', rfl, _, hg', _⟩
    · intro e; cases e
    · intro e
      have : g = g' := by injection e
      subst this
      rw [hg] at hg'
      injection hg' with hg'
      injection hg' with _ ht
      exact hne ht

theorem join_any {w : World} {base : Nat} {v : Value} (ts : List Tk) (h : w.ownsRow base 9 1 v ts.length (ts.map strC)) (hl : (joined (ts.map Tk.s)).length ≤ 320) (hn : ts.length ≤ 160) :
    Calls Tryd.prog 12 #[v, .string ⟨#[32]⟩] w fun e w' => e = .returned (.string ⟨(joined (ts.map Tk.s)).toArray⟩) ∧ Below w.heap.size w w' := by
  rcases Nat.eq_zero_or_pos ts.length with h0 | h0
  · obtain ⟨A, c, rfl⟩ := own_slice h
    have e : ts = [] := List.eq_nil_of_length_eq_zero h0
    subst e
    refine (Tryd.strings_Join_none A c ⟨#[32]⟩ w).mono ?_
    rintro e w' ⟨rfl, rfl⟩
    exact ⟨rfl, Below.refl _ _⟩
  · obtain ⟨g, cap, rfl, _, hg, hcap, _, hc⟩ := own_form h h0
    obtain ⟨xs, hxs⟩ : ∃ xs : List ByteArray, ts.map (fun x => (⟨x.s.toArray⟩ : ByteArray)) = xs := ⟨_, rfl⟩
    have hxl : xs.length = ts.length := by rw [← hxs]; simp
    have hmap : xs.map (·.data.toList) = ts.map Tk.s := by rw [← hxs, List.map_map]; rfl
    have hcells : ∀ (j : Nat) x, xs[j]? = some x → w.cell? ⟨g, 0 + j, none⟩ = some (.string x) := fun j x hx => by
      have hj : j < xs.length := (List.getElem?_eq_some_iff.1 hx).1
      rw [Nat.zero_add, hc j (by omega)]
      rw [← hxs, List.getElem?_map] at hx
      rw [List.getElem?_map]
      cases ht : ts[j]? with
      | none => rw [ht] at hx; cases hx
      | some y => rw [ht] at hx; simp only [Option.map_some, Option.some.injEq] at hx ⊢; subst hx; rfl
    have := Tryd.strings_Join g 0 cap xs ⟨#[32]⟩ w hcells hg (by omega) (by omega) (by
      rw [hmap]
      show (Lib.join (ts.map Tk.s) [32]).length ≤ _
      rw [joined_is]; omega)
    rw [hxl, hmap] at this
    refine this.mono ?_
    rintro e w' ⟨rfl, hb⟩
    refine ⟨?_, hb⟩
    show Ending.returned (.string ⟨(Lib.join (ts.map Tk.s) [32]).toArray⟩) = _
    rw [joined_is]

theorem clos_any (kd vk n p p' : Int) (u t : ByteArray) (w : World) :
    Calls Tryd.prog 14 #[.agg #[.int .i64 kd, .int .i64 p, .string u, .int .i64 vk, .int .i64 n, .string t], .agg #[.int .i64 kd, .int .i64 p', .string u, .int .i64 vk, .int .i64 n, .string t]] w fun e w' => e = .returned (.bool true) ∧ Below w.heap.size w w' := by
  go_enter Tryd.func14, Tryd.ntmps14
  go_wp2_with fail
  go_ret
  exact ⟨by simp, ((Below.refl _ _).alloc (Nat.le_refl _) _).alloc (by simp) _⟩

theorem Holds.below {w w1 : World} {ts : List Tk} {A : Option Addr} (h : Holds w ts A) (hb : Below w.heap.size w w1) : Holds w1 ts A := fun hn => by
  obtain ⟨g, hA, hc⟩ := h hn
  have hlt : g < w.heap.size := by
    have h0 := hc 0 (by omega)
    rcases Nat.lt_or_ge g w.heap.size with h | h
    · exact h
    · have hl : 0 < (tksC ts).length := by rw [tksC_len]; omega
      rw [List.getElem?_eq_getElem hl] at h0
      simp [World.cell?, Array.getElem?_eq_none h] at h0
  exact ⟨g, hA, fun j hj => (hb.cell (p := ⟨g, j, none⟩) hlt).trans (hc j hj)⟩

set_option maxHeartbeats 1000000 in
theorem eqf_any (w : World) (ts us : List Tk) (A1 A2 : Option Addr) (c1 c2 : Nat) (hl : ts.length ≤ 160) (hb : us.map Tk.bare = ts.map Tk.bare) (h1 : Holds w ts A1) (h2 : Holds w us A2) :
    Calls Tryd.prog 13 #[.slice A1 ts.length c1, .slice A2 us.length c2, .func (.func 14) #[] #[]] w fun e w' => e = .returned (.bool true) ∧ Below w.heap.size w w' := by
  have hlen : us.length = ts.length := by have := congrArg List.length hb; simpa using this
  have H1 := Lib.hid h1
  have H2 := Lib.hid h2
  have HB := Lib.hid hb
  rw [hlen]
  have HL := Lib.hid hlen
  clear h1 h2 hb hlen
  go_enter Tryd.func13, Tryd.ntmps13
  go_wp2_with fail
  go_loopw [7, 8, 9, 17] (fun _ _ _ i wr => ∃ k : Nat, k ≤ ts.length ∧ i = .int .i64 k ∧ Below w.heap.size w wr) (fun _ _ _ i _ => ts.length - (intOf i).toNat)
  case atStart => exact ⟨0, by omega, rfl, Below.refl _ _⟩
  case round =>
    obtain ⟨k, hk, rfl, hbw⟩ := hrel
    have HBW := Lib.hid hbw
    by_cases hlt : k < ts.length
    · have hs : us[k]?.map Tk.bare = ts[k]?.map Tk.bare := by rw [← List.getElem?_map, ← List.getElem?_map, HB.out]
      have hlu : k < us.length := by rw [HL.out]; exact hlt
      obtain ⟨g, kd, vk, n, p, u, t, rfl, y0, y1, y2, y3, y4, y5, e0, e1, e2, e3, e4, e5⟩ := (Holds.below H1.out hbw).at_ hlt
      obtain ⟨g', kd', vk', n', p', u', t', rfl, z0, z1, z2, z3, z4, z5, f0, f1, f2, f3, f4, f5⟩ := (Holds.below H2.out hbw).at_ hlu
      have gl1 : g < wr.heap.size := World.block_lt_of_cell? wr _ y0
      have gl2 : g' < wr.heap.size := World.block_lt_of_cell? wr _ z0
      rw [List.getElem?_eq_getElem hlt, List.getElem?_eq_getElem hlu] at hs
      simp only [Option.map_some, Option.some.injEq, Tk.bare, Prod.mk.injEq] at hs
      obtain ⟨s0, s1, s2, s3, s4⟩ := hs
      rw [s0, ← e0] at f0
      rw [s1, ← e2] at f2
      rw [s2, ← e3] at f3
      rw [s3, ← e4] at f4
      rw [s4, ← e5] at f5
      subst f0 f2 f3 f4 f5
      clear e0 e1 e2 e3 e4 e5 f1 s0 s1 s2 s3 s4 hbw
      go_wp2_with ((go_at_call 14; (with_reducible refine (clos_any _ _ _ _ _ _ _ _).mono ?_); rintro e w1 ⟨rfl, hb1⟩))
      go_roundw
      case rel => exact ⟨k + 1, by omega, by go_num, HBW.out.trans (((b_more (b_new wr _) _).trans (hb1.mono (by simp; omega))).mono HBW.out.size)⟩
      case measure => simp [intOf]; omega
    · go_wp2_with fail
      go_ret
      exact ⟨rfl, hbw⟩
end Go.Proofs.YtjpajgpconejhaaDoor.LexJoin
