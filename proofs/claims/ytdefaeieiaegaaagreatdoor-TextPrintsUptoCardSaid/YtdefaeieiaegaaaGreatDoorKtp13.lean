/- TxProg StrTab LexTok RkMath Reg NmHas: what these laws name of them. -/
import Derived.Lib.SplitLaws
import Derived.Lib.IndexMore
import Derived.Lib.Split
import Derived.Lib.Strings
import Derived.Lib.ReplaceLaws
import Derived.Lib.CountLaws
import GoSem.Claim
import Derived.Lib.Bytealg
import Derived.Lib.Small
import Derived.Lib.AtoiAll
import Derived.Lib.AtoiTie
import Derived.Lib.ItoaMem
import Derived.Lib.UnsafeStr
import Derived.Lib.ItoaNum
import Derived.LaidLaws
import Derived.ChangeArms
import Derived.Lib.LaidTab
import Derived.ChangeOld
import Derived.WideShapes
import Derived.WalkSmall
import Derived.Deep.RegionHeld3
import Derived.Deep.DeepCutAuto
import Derived.Shelf.Strings.Builder1
import Derived.Shelf.Strings.Builder2
import Derived.Shelf.Strings.OnBuilder
import Derived.Shelf.Small.Bits
import Derived.Shelf.Small.Wraps
import Derived.Shelf.Strings.BuilderF
import Derived.Shelf.Strings.BuilderK
import Derived.Shelf.Strconv.Atoi
import Derived.Shelf.Strconv.Itoa0
import Derived.Shelf.Strconv.Itoa1
import Derived.Shelf.LaysM
import Derived.Shelf.Strconv.Itoa2
import Derived.Shelf.Strconv.Itoa3
import Derived.Shelf.Strconv.AtoiErrFast
import Derived.Shelf.Strconv.ParseIntEmpty
import Derived.Shelf.Strconv.AtoiFail
import Derived.Shelf.Strconv.Clone
import Derived.Shelf.Strconv.SyntaxError
import Derived.Shelf.LaysC
import Derived.Shelf.Strconv.ToError
import Derived.Shelf.Strconv.Lower
import Derived.Shelf.Strconv.ParseUint10
import Derived.Shelf.Strconv.ParseUint10Empty
import Derived.Shelf.Strconv.ParseUint10Any
import Derived.Shelf.Strconv.ParseInt10
import Derived.Shelf.Strconv.AtoiLong
import Derived.Shelf.Strconv.AtoiInnerAll
import Derived.Shelf.Strconv.RangeError
import Derived.Shelf.Strconv.ToErrorRange
import Derived.Shelf.Strconv.AtoiAll
import Derived.Shelf.Strconv.ErrVarAll
import Derived.Shelf.Strings.Search1
import Derived.Shelf.Strings.Search2
import Derived.Shelf.Strings.Search3
import Derived.Shelf.Strings.Cut
import Derived.Shelf.Strings.Count
import Derived.Shelf.Strings.Shaped
import Derived.Shelf.Strings.Prefix
import Derived.Shelf.Strings.Split
import Derived.Shelf.Bits.Mul64
import Derived.Shelf.Unicode.DecodeSlow
import Derived.Shelf.Slices.Turned
import Derived.Shelf.Slices.Equal
import Derived.Ground.Names2Prog
import Derived.Shelf.Slices.Clone
import Derived.Shelf.Slices.Empties2
import Derived.Ground.SlgfProg
import Derived.Shelf.SlicesE.IndexFunc
import Derived.Ground.SlgmProg
import Derived.Shelf.SortM.Plain
import Derived.Shelf.SortM.SortNone
import Derived.Test.YtdefaeieiaegaaaGreatDoorProg
import Derived.Test.YtdefaeieiaegaaaGreatDoorChecked
import Derived.WalkKit
import Derived.ProofKit
import Derived.Outline
import Derived.WalkSpells
import Derived.Lib.Hide
import Derived.WalkLawsBesides
import Derived.BigQuiet
import Derived.Deep.QuietTactic
import Derived.Below
import Derived.Deep.Draws
import Derived.Calls
import Derived.Orders
import Derived.RegionTactic
import Derived.OrdersHeld
import Derived.RangeFuncBox
import Derived.RangeFuncNested
import Derived.RangeFuncBound
import Derived.RangeFuncCalls
import Derived.RangeFuncLeaves
import Derived.Shelf.Abstract
import Derived.Shelf.RegionOpen
import Derived.OwnWalkIn
import Derived.TacticsInMore
import Derived.LoopNIn
import Derived.LoopIn
import Derived.Deep.RegionWith
import Derived.Deep.DrawnRows
import Derived.LaidMore
import Derived.IntWalk
import Derived.Laws.OwnMore
import Derived.OwnWalk
import Derived.ChangeAlike
import Derived.Test.YtdefaeieiaegaaaGreatDoorKtp01
import Derived.Test.YtdefaeieiaegaaaGreatDoorKtp02
import Derived.Test.YtdefaeieiaegaaaGreatDoorKtp03
import Derived.Test.YtdefaeieiaegaaaGreatDoorKtp05
import Derived.Test.YtdefaeieiaegaaaGreatDoorKtp06
import Derived.Test.YtdefaeieiaegaaaGreatDoorKtp08
import Derived.Test.YtdefaeieiaegaaaGreatDoorKtp11
namespace Go.Proofs.YtdefaeieiaegaaaGreatDoor.TxP
open ValM LexM ExM ShowM PrM TxM TxR
set_option linter.unusedVariables false
theorem cut_spec (l sep : List UInt8) (hs : sep ≠ []) : (Lib.index l sep = -1 ∧ cutO l sep = none) ∨ ∃ (i : Nat), Lib.index l sep = i ∧ i + sep.length ≤ l.length ∧ l = l.take i ++ (sep ++ l.drop (i + sep.length)) ∧ cutO l sep = some (l.take i, l.drop (i + sep.length)) ∧ Lib.NoOcc l sep i := by
  rcases Lib.index_spec l sep with ⟨h, _⟩ | ⟨i, h, hi, ho, hn⟩
  · exact .inl ⟨h, cut_no h⟩
  · refine .inr ⟨i, h, ?_, ?_, ?_, hn⟩
    · rcases Lib.occAt_room ho with h1 | h1
      · exact h1
      · exact absurd h1 hs
    · have : sep <+: l.drop i := List.isPrefixOf_iff_prefix.1 ho
      obtain ⟨r, hr⟩ := this
      have e : l.drop (i + sep.length) = r := by rw [← List.drop_drop, ← hr, List.drop_left]
      rw [e, hr, List.take_append_drop]
    · unfold cutO
      rw [if_neg (by rw [h]; omega), h]
      rfl
theorem cut_join {l sep a r : List UInt8} (hs : sep ≠ []) (h : cutO l sep = some (a, r)) : l = a ++ (sep ++ r) ∧ r.length < l.length := by
  rcases cut_spec l sep hs with ⟨_, e⟩ | ⟨i, h1, h2, h3, h4, _⟩
  · rw [e] at h; cases h
  · rw [h4] at h
    injection h with h
    injection h with ha hr
    subst ha hr
    refine ⟨h3, ?_⟩
    have := List.length_pos_iff.2 hs
    rw [List.length_drop]
    omega
theorem splitK_step (l sep : List UInt8) (k : Nat) (hs : sep ≠ []) : Lib.splitK sep 0 (k + 1) l = match cutO l sep with | none => [l] | some (a, r) => a :: Lib.splitK sep 0 k r := by
  rcases cut_spec l sep hs with ⟨h, e⟩ | ⟨i, h1, h2, h3, h4, _⟩
  · rw [e, Lib.splitK, if_pos (by rw [h]; rfl)]
  · rw [h4, Lib.splitK, if_neg (by rw [h1]; simp), h1]
    rfl
theorem splitK_join (sep : List UInt8) (hs : sep ≠ []) : ∀ (k : Nat) (l : List UInt8), joinS sep (Lib.splitK sep 0 k l) = l
  | 0, _ => rfl
  | k + 1, l => by
    rw [splitK_step l sep k hs]
    split
    · rfl
    · rename_i a r h
      have ih := splitK_join sep hs k r
      have hj := (cut_join hs h).1
      cases hk : Lib.splitK sep 0 k r with
      | nil =>
        exfalso
        cases k with
        | zero => cases hk
        | succ k =>
          rw [splitK_step r sep k hs] at hk
          split at hk <;> cases hk
      | cons b q =>
        rw [hk] at ih
        show a ++ (sep ++ joinS sep (b :: q)) = l
        rw [ih, ← hj]
def inW : List UInt8 := [105, 110, 112, 117, 116]
def foW : List UInt8 := [102, 111, 114, 109, 117, 108, 97]
def loW : List UInt8 := [108, 111, 111, 107, 117, 112]
def kdN : List (List UInt8) := [[], inW, foW, loW]
def tyN : List (List UInt8) := [[], [105, 110, 116], [98, 111, 111, 108], [116, 101, 120, 116]]
/-- The place of a word among four; 0 if there is none. -/
def wordOf (L : List (List UInt8)) (s : List UInt8) : Int := if L.getD 0 [] = s then 0 else if L.getD 1 [] = s then 1 else if L.getD 2 [] = s then 2 else if L.getD 3 [] = s then 3 else 0
theorem kd_word {k : Int} (h : 1 ≤ k ∧ k ≤ 3) : ∃ a, kdW k = a ++ [32] ∧ (32 : UInt8) ∉ a ∧ wordOf kdN a = k := by
  rcases kt_cases h with rfl | rfl | rfl
  · exact ⟨inW, rfl, by decide, by decide⟩
  · exact ⟨foW, rfl, by decide, by decide⟩
  · exact ⟨loW, rfl, by decide, by decide⟩
end Go.Proofs.YtdefaeieiaegaaaGreatDoor.TxP
namespace Go.Proofs.YtdefaeieiaegaaaGreatDoor.StrTab
open Go.ChangeShapes Go.WideShapes
def strData {H : Type} (zs : List (List UInt8)) : DataW H := .agg (zs.map fun l => .lit (.string l))
def Is (P : Program) (w : World) (name : String) (zs : List (List UInt8)) : Prop := w.var? P name = some (zs.map fun l => Value.string ⟨l.toArray⟩).toArray
theorem cells_of {H : Type} {enc : TypeId × Value → H} {P : Program} {w : World} {base : Nat} {sp : Nat → Bool} {held : Bool} {fuel : Nat} {t e : TypeId} {n : Nat} {cs : List Value} {zs : List (List UInt8)} {p : List MemPlace}
    (ht : P.underlying t = some (.array n e)) (he : P.underlying e = some .string) (hce : P.cellsOf e = 1) (hct : P.cellsOf t = n)
    (h : DataW.trod enc P w base sp held fuel t cs = some (strData zs, p)) : cs = zs.map fun l => Value.string ⟨l.toArray⟩ := by
  cases fuel with
  | zero => simp [DataW.trod] at h
  | succ fuel =>
    simp only [DataW.trod, ht, hce, hct, Nat.mul_one] at h
    split at h
    · rename_i hl
      obtain ⟨xs, hm, hx⟩ := Option.map_eq_some_iff.1 h
      have hxs : xs.map (·.1) = zs.map fun l => (DataW.lit (.string l) : DataW H) := by
        have := congrArg Prod.fst hx
        simpa [strData] using this
      have hxl : xs.length = n := by simpa using Lib.mapM_length hm
      have hzl : zs.length = n := by
        have := congrArg List.length hxs
        simp at this
        omega
      apply List.ext_getElem?
      intro i
      by_cases hi : i < n
      · obtain ⟨b, hb, hf⟩ := Lib.mapM_at hm i i (by simp [hi])
        obtain ⟨z, hc, rfl, _⟩ := DataW.trod_string he hf
        have h1 : cs[i]? = some (.string z) := by
          have := congrArg (·[0]?) hc
          simpa [List.getElem?_take, List.getElem?_drop] using this
        have h2 : (xs.map (·.1))[i]? = some (DataW.lit (.string z.data.toList) : DataW H) := by simp [hb]
        rw [hxs] at h2
        simp only [List.getElem?_map, Option.map_eq_some_iff, DataW.lit.injEq, Lit.string.injEq] at h2
        obtain ⟨z', hz', hz2⟩ := h2
        simp [h1, hz', hz2]
      · rw [List.getElem?_eq_none (by omega), List.getElem?_eq_none (by simp; omega)]
    · cases h
theorem is_of_head {P : Program} {W : World} {name : String} {zs : List (List UInt8)} {rest : List (String × DataW Unit)} {g : Nat} {t e : TypeId} {n : Nat}
    (hg : P.globalNamed name = some g) (hty : (P.globals[g]?).map (·.type) = some t) (ht : P.underlying t = some (.array n e)) (he : P.underlying e = some .string) (hce : P.cellsOf e = 1) (hct : P.cellsOf t = n)
    (h : laidMet P ((name, strData zs) :: rest) W) : Is P W name zs := by
  obtain ⟨ps, ⟨g', t', cs, fuel, p, q, hg', ht', hvar, hd, _, _⟩, _⟩ := h
  obtain rfl := Option.some.inj (hg.symm.trans hg')
  obtain rfl := Option.some.inj (hty.symm.trans ht')
  unfold Is
  rw [hvar, ← cells_of ht he hce hct hd]
theorem Is.cell {P : Program} {W : World} {name : String} {zs : List (List UInt8)} {g : Nat} (h : Is P W name zs) (hg : P.globalNamed name = some g) (i : Nat) (hi : i < zs.length) :
    W.cell? ⟨g, i, none⟩ = some (.string ⟨(zs.getD i []).toArray⟩) := by
  have := World.var?_cell hg h i
  simpa [List.getD, hi] using this
end Go.Proofs.YtdefaeieiaegaaaGreatDoor.StrTab
namespace Go.Proofs.YtdefaeieiaegaaaGreatDoor.LexT
open Go.RowKit
open LexM LexB Kit
set_option linter.unusedVariables false
def sgnL : List (List UInt8) := [[60, 61], [33, 61], [60], [61], [43], [45], [42], [47], [37], [38], [40], [41], [44]]
structure Vars (w : World) : Prop where
  syn : ∃ p, w.var? Tryz.prog "strconv.ErrSyntax" = some #[.iface 279 p]
  ran : ∃ p, w.var? Tryz.prog "strconv.ErrRange" = some #[.iface 279 p]
  sgn : StrTab.Is Tryz.prog w "lychway/lex.signs" sgnL
theorem var_below {w w' : World} {n : String} {cs : Array Value} (h : w.var? Tryz.prog n = some cs) (hb : Below w.heap.size w w') : w'.var? Tryz.prog n = some cs := by
  have hg : ∃ g, Tryz.prog.globalNamed n = some g ∧ g < w.heap.size := by
    unfold World.var? at h
    cases hg : Tryz.prog.globalNamed n with
    | none => simp [hg] at h
    | some g =>
      refine ⟨g, rfl, ?_⟩
      rcases Nat.lt_or_ge g w.heap.size with hl | hl
      · exact hl
      · simp [hg, Array.getElem?_eq_none hl] at h
  obtain ⟨g, hg, hl⟩ := hg
  exact var?_below hb hg hl h
theorem Vars.below {w w' : World} (h : Vars w) (hb : Below w.heap.size w w') : Vars w' := by
  obtain ⟨p, hp⟩ := h.syn
  obtain ⟨q, hq⟩ := h.ran
  exact ⟨⟨p, var_below hp hb⟩, ⟨q, var_below hq hb⟩, var_below h.sgn hb⟩
/-- What a first token's function hands back. -/
def Tells (f : Fst) (l : List UInt8) (k vk n e : Int) (u t : ByteArray) : Prop :=
  match f with
  | .bad q => e = q ∧ q ≠ 0
  | .tok T => e = 0 ∧ T.kind = k ∧ u.data.toList = l.take T.len ∧ T.vk = vk ∧ T.n = n ∧ t.data.toList = T.t
theorem b_set6 {w w1 : World} (h : Below w.heap.size w w1) (b : Nat) (hb : w.heap.size ≤ b) (x y z x' y' z' : Value) : Below w.heap.size w ((((((w1.setCell ⟨b, 0, none⟩ x).setCell ⟨b, 1, none⟩ y).setCell ⟨b, 2, none⟩ z).setCell ⟨b, 3, none⟩ x').setCell ⟨b, 4, none⟩ y').setCell ⟨b, 5, none⟩ z') :=
  (((b_set3 h b hb x y z).setCell (p := ⟨b, 3, none⟩) hb _).setCell (p := ⟨b, 4, none⟩) hb _).setCell (p := ⟨b, 5, none⟩) hb _
theorem dig_pre (s : ByteArray) : (s.extract 0 (tw digB s)).data.toList = s.data.toList.takeWhile digB := by
  have e : (s.extract 0 (tw digB s)).data.toList = s.data.toList.take (tw digB s) := by simp [ByteArray.data_extract]
  rw [e]; exact LexM.take_tw digB _
theorem tw_pos (p : UInt8 → Bool) (s : ByteArray) (h0 : 0 < s.size) (hd : p s[0] = true) : 0 < tw p s := by
  obtain ⟨r, hr⟩ := head_of s h0
  unfold tw; rw [hr, List.takeWhile_cons, if_pos hd]; simp
theorem head_is (D : ByteArray) (h : 0 < D.size) : D.data.toList.head? = some D[0] := by
  obtain ⟨r, hr⟩ := head_of D h; rw [hr]; rfl
theorem byte_is (c : UInt8) (n : Nat) (hn : n < 256) : ((c.toNat : Int) == (n : Int)) = decide (c = UInt8.ofNat n) := by
  rw [Bool.eq_iff_iff, beq_iff_eq, decide_eq_true_eq, ← UInt8.toNat_inj, UInt8.toNat_ofNat', Nat.mod_eq_of_lt (by simpa using hn)]; omega
/-- Its digits begin with a needless 0. -/
theorem number_lead (s D : ByteArray) (hs : s.size ≤ 140737488351232) (hD : s.extract 0 (tw digB s) = D) (hp : 0 < D.size) (h1 : D[0] = 48) (h2 : D.data.toList ≠ [48]) (w : World) :
    Calls Tryz.prog 217 #[.string s] w fun e w' => e = .returned (.tuple #[.agg #[.int .i64 0, .int .i64 0, .string ⟨#[]⟩, .int .i64 0, .int .i64 0, .string ⟨#[]⟩], .int .i64 3]) ∧ Below w.heap.size w w' := by
  have c1 := fun W => leading_dig s W (by omega)
  rw [hD] at c1
  have hpi : (0 : Int) < D.size := by omega
  have e1 : ((D[0].toNat : Int) == 48) = true := by rw [h1]; rfl
  have e2 : (D.toList == [48]) = false := by rw [eqb_of]; exact decide_eq_false h2
  have e3 : (D.toList != [48]) = true := by unfold bne; rw [e2]; rfl
  have C1 := Lib.hid c1
  clear c1 hD h1 h2
  go_enter Tryz.func217, Tryz.ntmps217
  go_wp2_with fail
  refine (C1.out _).mono ?_; rintro e w1 ⟨rfl, rfl⟩
  go_wp2_with fail
  refine bodyPost_ret (v := .tuple #[.agg #[.int .i64 0, .int .i64 0, .string ⟨#[]⟩, .int .i64 0, .int .i64 0, .string ⟨#[]⟩], .int .i64 3]) (by simp [results, Tryz.results217, go_sem]) rfl ⟨rfl, b_new _ _⟩
theorem end_cases (e : Lib.NumEnd Int) : (∃ n, e = .ok n) ∨ e = Lib.NumEnd.syntax ∨ e = Lib.NumEnd.range := by cases e <;> simp
def Plain (D : ByteArray) : Prop := D.data.toList.head? = some 48 → D.data.toList = [48]
/-- What the two tests of a plain number's digits say. -/
theorem plain_tests (D : ByteArray) (hp : 0 < D.size) (h : Plain D) : ((D[0].toNat : Int) == 48) = false ∨ (((D[0].toNat : Int) == 48) = true ∧ (D.toList == [48]) = true ∧ (D.toList != [48]) = false) := by
  by_cases g : D[0] = 48
  · right
    have e : D.data.toList = [48] := h (by rw [head_is D hp, g])
    have e2 : (D.toList == [48]) = true := by rw [eqb_of]; exact decide_eq_true e
    exact ⟨by rw [g]; rfl, e2, by unfold bne; rw [e2]; rfl⟩
  · left
    have := byte_is D[0] 48 (by decide)
    rw [show ((48 : Nat) : Int) = 48 from rfl] at this
    rw [this]; exact decide_eq_false g
theorem number_ok (s D : ByteArray) (hs : s.size ≤ 140737488351232) (hD : s.extract 0 (tw digB s) = D) (hp : 0 < D.size) (hpl : Plain D) (n : Int) (ha : Lib.atoiAll D.data.toList = .ok n) (hn : n ≤ 1099511627776) (w : World) :
    Calls Tryz.prog 217 #[.string s] w fun e w' => e = .returned (.tuple #[.agg #[.int .i64 1, .int .i64 0, .string D, .int .i64 1, .int .i64 n, .string ⟨#[]⟩], .int .i64 0]) ∧ Below w.heap.size w w' := by
  have hDs : D.size ≤ s.size := by rw [← hD]; simp; omega
  have c1 := fun W => leading_dig s W (by omega)
  rw [hD] at c1
  have c2 : ∀ W : World, Calls Tryz.prog 163 #[.string D] W fun e w' => e = .returned (.tuple #[.int .i64 n, .nilIface]) ∧ Below W.heap.size W w' := fun W =>
    (Tryz.strconv_Atoi_ok D (by omega) n ha W).mono fun e w' hh => ⟨hh.1, by
      rcases hh.2 with rfl | ⟨t, rfl⟩
      · exact Below.refl _ _
      · exact Lib.bytesWorld_below _ _ _⟩
  have hpi : (0 : Int) < D.size := by omega
  have C1 := Lib.hid c1
  have C2 := Lib.hid c2
  have ht := plain_tests D hp hpl
  clear c1 c2 hD ha hpl
  rcases ht with e1 | ⟨e1, e2, e3⟩
  all_goals
    go_enter Tryz.func217, Tryz.ntmps217
    go_wp2_with fail
    refine (C1.out _).mono ?_; rintro e w1 ⟨rfl, rfl⟩
    go_wp2_with fail
    refine (C2.out _).mono ?_; rintro e w1 ⟨rfl, hb1⟩
    obtain ⟨c1, d1⟩ := bcell hb1
    have hz : w.heap.size < w1.heap.size := Nat.lt_of_lt_of_le (by simp) hb1.size
    go_wp2_with fail
    refine bodyPost_ret (v := .tuple #[.agg #[.int .i64 1, .int .i64 0, .string D, .int .i64 1, .int .i64 n, .string ⟨#[]⟩], .int .i64 0]) (by simp [results, Tryz.results217, go_sem, c1]) rfl ⟨rfl, ?_⟩
    exact b_set6 (b_then hb1) _ (Nat.le_refl _) _ _ _ _ _ _
/-- Its digits are more than a number can be. -/
theorem number_over (s D : ByteArray) (hs : s.size ≤ 140737488351232) (hD : s.extract 0 (tw digB s) = D) (hp : 0 < D.size) (hpl : Plain D) (n : Int) (ha : Lib.atoiAll D.data.toList = .ok n) (hn : 1099511627776 < n) (w : World) :
    Calls Tryz.prog 217 #[.string s] w fun e w' => e = .returned (.tuple #[.agg #[.int .i64 0, .int .i64 0, .string ⟨#[]⟩, .int .i64 0, .int .i64 0, .string ⟨#[]⟩], .int .i64 7]) ∧ Below w.heap.size w w' := by
  have hDs : D.size ≤ s.size := by rw [← hD]; simp; omega
  have c1 := fun W => leading_dig s W (by omega)
  rw [hD] at c1
  have c2 : ∀ W : World, Calls Tryz.prog 163 #[.string D] W fun e w' => e = .returned (.tuple #[.int .i64 n, .nilIface]) ∧ Below W.heap.size W w' := fun W =>
    (Tryz.strconv_Atoi_ok D (by omega) n ha W).mono fun e w' hh => ⟨hh.1, by
      rcases hh.2 with rfl | ⟨t, rfl⟩
      · exact Below.refl _ _
      · exact Lib.bytesWorld_below _ _ _⟩
  have hpi : (0 : Int) < D.size := by omega
  have C1 := Lib.hid c1
  have C2 := Lib.hid c2
  have ht := plain_tests D hp hpl
  clear c1 c2 hD ha hpl
  rcases ht with e1 | ⟨e1, e2, e3⟩
  all_goals
    go_enter Tryz.func217, Tryz.ntmps217
    go_wp2_with fail
    refine (C1.out _).mono ?_; rintro e w1 ⟨rfl, rfl⟩
    go_wp2_with fail
    refine (C2.out _).mono ?_; rintro e w1 ⟨rfl, hb1⟩
    obtain ⟨c1, d1⟩ := bcell hb1
    have hz : w.heap.size < w1.heap.size := Nat.lt_of_lt_of_le (by simp) hb1.size
    go_wp2_with fail
    refine bodyPost_ret (v := .tuple #[.agg #[.int .i64 0, .int .i64 0, .string ⟨#[]⟩, .int .i64 0, .int .i64 0, .string ⟨#[]⟩], .int .i64 7]) (by simp [results, Tryz.results217, go_sem, c1]) rfl ⟨rfl, ?_⟩
    exact b_set6 (b_then hb1) _ (Nat.le_refl _) _ _ _ _ _ _
theorem number_err (s D : ByteArray) (hs : s.size ≤ 140737488351232) (hD : s.extract 0 (tw digB s) = D) (hp : 0 < D.size) (hpl : Plain D) (ha : ∀ n, Lib.atoiAll D.data.toList ≠ .ok n) (w : World) (hv : Vars w) :
    Calls Tryz.prog 217 #[.string s] w fun e w' => e = .returned (.tuple #[.agg #[.int .i64 0, .int .i64 0, .string ⟨#[]⟩, .int .i64 0, .int .i64 0, .string ⟨#[]⟩], .int .i64 7]) ∧ Below w.heap.size w w' := by
  have hDs : D.size ≤ s.size := by rw [← hD]; simp; omega
  have c1 := fun W => leading_dig s W (by omega)
  rw [hD] at c1
  have c2 : ∀ W : World, Vars W → Calls Tryz.prog 163 #[.string D] W fun e w' => ∃ (m : Int) (N : Nat), e = .returned (.tuple #[.int .i64 m, .iface 253 (.pointer (some ⟨N, 0, none⟩))]) ∧ Below W.heap.size W w' := fun W hv => by
    obtain ⟨p, hp⟩ := hv.syn
    obtain ⟨q, hq⟩ := hv.ran
    rcases end_cases (Lib.atoiAll D.data.toList) with ⟨n, he⟩ | he | he
    · exact absurd he (ha n)
    · refine (Tryz.strconv_Atoi_syntax_var D (by omega) he _ p _ hp).mono ?_
      rintro e w' ⟨N, h1, _, _, h2⟩
      exact ⟨0, N, h1, h2⟩
    · refine (Tryz.strconv_Atoi_range_var D (by omega) he _ q _ hq).mono ?_
      rintro e w' ⟨N, h1, _, _, h2⟩
      exact ⟨_, N, h1, h2⟩
  have hpi : (0 : Int) < D.size := by omega
  have C1 := Lib.hid c1
  have C2 := Lib.hid c2
  have HV := Lib.hid hv
  have ht := plain_tests D hp hpl
  clear c1 c2 hD ha hpl hv
  rcases ht with e1 | ⟨e1, e2, e3⟩
  all_goals
    go_enter Tryz.func217, Tryz.ntmps217
    go_wp2_with fail
    refine (C1.out _).mono ?_; rintro e w1 ⟨rfl, rfl⟩
    go_wp2_with fail
    refine (C2.out _ (HV.out.below (b_new w _))).mono ?_; rintro e w1 ⟨m, N, rfl, hb1⟩
    obtain ⟨c1, d1⟩ := bcell hb1
    have hz : w.heap.size < w1.heap.size := Nat.lt_of_lt_of_le (by simp) hb1.size
    go_wp2_with fail
    refine bodyPost_ret (v := .tuple #[.agg #[.int .i64 0, .int .i64 0, .string ⟨#[]⟩, .int .i64 0, .int .i64 0, .string ⟨#[]⟩], .int .i64 7]) (by simp [results, Tryz.results217, go_sem, c1]) rfl ⟨rfl, ?_⟩
    exact b_set6 (b_then hb1) _ (Nat.le_refl _) _ _ _ _ _ _
theorem number_any (s : ByteArray) (hs : s.size ≤ 140737488351232) (h0 : 0 < s.size) (hd : digB s[0] = true) : ∃ (k vk n e : Int) (u t : ByteArray), Tells (numT (s.data.toList.takeWhile digB)) s.data.toList k vk n e u t ∧
    ∀ w : World, Vars w → Calls Tryz.prog 217 #[.string s] w fun x w' => x = .returned (.tuple #[.agg #[.int .i64 k, .int .i64 0, .string u, .int .i64 vk, .int .i64 n, .string t], .int .i64 e]) ∧ Below w.heap.size w w' := by
  obtain ⟨D, hD⟩ : ∃ D, s.extract 0 (tw digB s) = D := ⟨_, rfl⟩
  have hL : D.data.toList = s.data.toList.takeWhile digB := by rw [← hD]; exact dig_pre s
  have hsz : D.size = tw digB s := by rw [← len_size, hL]; rfl
  have hp : 0 < D.size := by rw [hsz]; exact tw_pos digB s h0 hd
  have htk : s.data.toList.take D.data.toList.length = D.data.toList := by rw [hL]; exact LexM.take_tw digB _
  rw [← hL]
  by_cases h1 : D.data.toList.head? = some 48 ∧ 1 < D.data.toList.length
  · refine ⟨0, 0, 0, 3, ⟨#[]⟩, ⟨#[]⟩, ?_, fun w _ => number_lead s D hs hD hp ?_ ?_ w⟩
    · unfold numT; rw [if_pos h1]; exact ⟨rfl, by decide⟩
    · rw [head_is D hp] at h1; exact Option.some.inj h1.1
    · intro g; rw [g] at h1; simp at h1
  · have hpl : Plain D := fun g => by
      have : D.data.toList.length = 1 := by
        have : D.data.toList.length = D.size := rfl
        have : ¬ 1 < D.data.toList.length := fun x => h1 ⟨g, x⟩
        omega
      match hh : D.data.toList, this with
      | [a], _ => rw [hh] at g; simp at g; rw [g]
    rcases end_cases (Lib.atoiAll D.data.toList) with ⟨n, ha⟩ | ha | ha
    · by_cases hn : 1099511627776 < n
      · refine ⟨0, 0, 0, 7, ⟨#[]⟩, ⟨#[]⟩, ?_, fun w _ => number_over s D hs hD hp hpl n ha hn w⟩
        unfold numT; rw [if_neg h1, ha]; simp only; rw [if_pos hn]; exact ⟨rfl, by decide⟩
      · refine ⟨1, 1, n, 0, D, ⟨#[]⟩, ?_, fun w _ => number_ok s D hs hD hp hpl n ha (by omega) w⟩
        unfold numT; rw [if_neg h1, ha]; simp only; rw [if_neg hn]
        exact ⟨rfl, rfl, htk.symm, rfl, rfl, rfl⟩
    · refine ⟨0, 0, 0, 7, ⟨#[]⟩, ⟨#[]⟩, ?_, fun w hv => number_err s D hs hD hp hpl (fun n g => by rw [ha] at g; cases g) w hv⟩
      unfold numT; rw [if_neg h1, ha]; exact ⟨rfl, by decide⟩
    · refine ⟨0, 0, 0, 7, ⟨#[]⟩, ⟨#[]⟩, ?_, fun w hv => number_err s D hs hD hp hpl (fun n g => by rw [ha] at g; cases g) w hv⟩
      unfold numT; rw [if_neg h1, ha]; exact ⟨rfl, by decide⟩
structure QInv (B : Nat) (w0 : World) (s : ByteArray) (k : Nat) (acc : List UInt8) (wr : World) : Prop where
  one : 1 ≤ k
  le : k ≤ s.size
  isB : Lib.IsBuilder 89 5 B B (Lib.byteCells acc) wr
  is : quoF (s.data.toList.drop 1) = (quoF (s.data.toList.drop k)).map fun x => (x.1 + (k - 1), acc ++ x.2)
  len : acc.length ≤ k
  below : Below B w0 wr
  size : B ≤ wr.heap.size
theorem QInv.step {B : Nat} {w0 w3 : World} {s : ByteArray} {k j : Nat} {acc : List UInt8} {wr : World} {c : UInt8} (h : QInv B w0 s k acc wr) (hj : k < j) (hle : j ≤ s.size) (hB : Lib.IsBuilder 89 5 B B (Lib.byteCells acc ++ [.int .u8 c.toNat]) w3) (hb : Below B wr w3)
    (hs : quoF (s.data.toList.drop k) = (quoF (s.data.toList.drop j)).map fun x => (x.1 + (j - k), c :: x.2)) : QInv B w0 s j (acc ++ [c]) w3 := by
  have h1 := h.one
  refine ⟨by omega, hle, by simpa [Lib.byteCells] using hB, ?_, by simp; have := h.len; omega, h.below.trans hb, Nat.le_trans h.size hb.size⟩
  rw [h.is, hs, Option.map_map]
  congr 1
  funext x
  simp; omega
end Go.Proofs.YtdefaeieiaegaaaGreatDoor.LexT
namespace Go.Proofs.YtdefaeieiaegaaaGreatDoor.RkM
set_option linter.unusedVariables false
def rk (r : List Int) (i : Nat) : Int := r.getD i 0
def nd (ns : List (List Nat)) (i : Nat) : List Nat := ns.getD i []
/-- One more than the greatest rank of these, at least a; -1 where one of them has none. -/
def aboveI (r : List Int) : List Nat → Int → Int
  | [], a => a
  | i :: l, a => if rk r i = -1 then -1 else aboveI r l (max a (rk r i + 1))
def sweepN (ns : List (List Nat)) (r : List Int) : Nat → List Int
  | 0 => r
  | k + 1 => (sweepN ns r k).set k (aboveI (sweepN ns r k) (nd ns k) 0)
def passN (ns : List (List Nat)) : Nat → List Int
  | 0 => List.replicate ns.length (-1)
  | p + 1 => sweepN ns (passN ns p) ns.length
def rankF (ns : List (List Nat)) : List Int := passN ns ns.length
theorem above_un {r : List Int} : ∀ (l : List Nat) (a : Int), (∃ i ∈ l, rk r i = -1) → aboveI r l a = -1
  | [], a, ⟨i, h, _⟩ => by simp at h
  | j :: l, a, ⟨i, h, e⟩ => by
    unfold aboveI
    by_cases hj : rk r j = -1
    · rw [if_pos hj]
    · rw [if_neg hj]
      rcases List.mem_cons.1 h with rfl | h
      · exact absurd e hj
      · exact above_un l _ ⟨i, h, e⟩
theorem above_ok {r : List Int} : ∀ (l : List Nat) (a : Int), (∀ i ∈ l, 0 ≤ rk r i) → 0 ≤ a → a ≤ aboveI r l a ∧ (∀ i ∈ l, rk r i + 1 ≤ aboveI r l a) ∧ (aboveI r l a = a ∨ ∃ i ∈ l, aboveI r l a = rk r i + 1)
  | [], a, _, _ => ⟨Int.le_refl _, fun i h => by simp at h, .inl rfl⟩
  | j :: l, a, h, ha => by
    have hj := h j (by simp)
    unfold aboveI
    rw [if_neg (by omega)]
    obtain ⟨h1, h2, h3⟩ := above_ok l (max a (rk r j + 1)) (fun i hi => h i (by simp [hi])) (by omega)
    refine ⟨by omega, fun i hi => ?_, ?_⟩
    · rcases List.mem_cons.1 hi with rfl | hi
      · omega
      · exact h2 i hi
    · rcases h3 with h3 | ⟨i, hi, e⟩
      · by_cases hm : a ≤ rk r j + 1
        · exact .inr ⟨j, by simp, by omega⟩
        · exact .inl (by omega)
      · exact .inr ⟨i, by simp [hi], e⟩
theorem above_congr {r s : List Int} : ∀ (l : List Nat) (a : Int), (∀ i ∈ l, rk r i = rk s i) → aboveI r l a = aboveI s l a
  | [], _, _ => rfl
  | j :: l, a, h => by
    unfold aboveI
    rw [h j (by simp), above_congr l _ fun i hi => h i (by simp [hi])]
theorem above_le {r : List Int} {b : Int} (hb : 0 ≤ b) (h : ∀ i, rk r i ≤ b) : ∀ (l : List Nat) (a : Int), a ≤ b + 1 → aboveI r l a ≤ b + 1
  | [], a, ha => ha
  | j :: l, a, ha => by
    unfold aboveI
    have := h j
    split
    · omega
    · exact above_le hb h l _ (by omega)
theorem above_ge {r : List Int} (h : ∀ i, -1 ≤ rk r i) : ∀ (l : List Nat) (a : Int), -1 ≤ a → -1 ≤ aboveI r l a
  | [], a, ha => ha
  | j :: l, a, ha => by
    unfold aboveI
    split
    · omega
    · exact above_ge h l _ (by omega)
theorem rk_set (r : List Int) (k : Nat) (v : Int) (i : Nat) (hk : k < r.length) : rk (r.set k v) i = if i = k then v else rk r i := by
  unfold rk
  rw [List.getD_eq_getElem?_getD, List.getD_eq_getElem?_getD, List.getElem?_set]
  by_cases h : i = k
  · subst h; rw [if_pos rfl, if_pos hk, if_pos rfl]; rfl
  · rw [if_neg (fun e => h e.symm), if_neg h]
theorem sweep_len (ns : List (List Nat)) (r : List Int) : ∀ k, (sweepN ns r k).length = r.length
  | 0 => rfl
  | k + 1 => by unfold sweepN; rw [List.length_set, sweep_len ns r k]
theorem pass_len (ns : List (List Nat)) : ∀ p, (passN ns p).length = ns.length
  | 0 => by unfold passN; rw [List.length_replicate]
  | p + 1 => by unfold passN; rw [sweep_len, pass_len ns p]
theorem rankF_len (ns : List (List Nat)) : (rankF ns).length = ns.length := pass_len ns _
def Bd (r : List Int) (b : Int) : Prop := ∀ i, -1 ≤ rk r i ∧ rk r i ≤ b
theorem bd_above {r : List Int} {b : Int} (h : Bd r b) (hb : 0 ≤ b) (l : List Nat) : -1 ≤ aboveI r l 0 ∧ aboveI r l 0 ≤ b + 1 := ⟨above_ge (fun i => (h i).1) l 0 (by omega), above_le hb (fun i => (h i).2) l 0 (by omega)⟩
theorem bd_sweep {ns : List (List Nat)} {r : List Int} {b : Int} (h : Bd r b) (hb : 0 ≤ b) (hl : r.length = ns.length) : ∀ k : Nat, k ≤ ns.length → Bd (sweepN ns r k) (b + (k : Int))
  | 0, _ => fun i => by have := h i; show -1 ≤ rk r i ∧ rk r i ≤ b + 0; omega
  | k + 1, hk => fun i => by
    have ih := bd_sweep h hb hl k (by omega)
    have hv := bd_above ih (by omega) (nd ns k)
    unfold sweepN
    rw [rk_set _ _ _ _ (by rw [sweep_len]; omega)]
    have := ih i
    split <;> omega
theorem bd_pass (ns : List (List Nat)) : ∀ p : Nat, Bd (passN ns p) ((p : Int) * (ns.length : Int))
  | 0 => fun i => by
    unfold passN rk
    rw [List.getD_eq_getElem?_getD, List.getElem?_replicate]
    split <;> simp
  | p + 1 => by
    have := bd_sweep (bd_pass ns p) (Int.mul_nonneg (by omega) (by omega)) (pass_len ns p) ns.length (Nat.le_refl _)
    intro i
    have h := this i
    unfold passN
    rw [show ((p + 1 : Nat) : Int) * (ns.length : Int) = (p : Int) * (ns.length : Int) + (ns.length : Int) by rw [Int.natCast_add, Int.add_mul]; simp]
    exact h
structure Con (ns : List (List Nat)) (r : List Int) : Prop where
  len : r.length = ns.length
  lo : ∀ i, -1 ≤ rk r i
  eq : ∀ i, i < ns.length → rk r i ≠ -1 → aboveI r (nd ns i) 0 = rk r i
def Mono (r s : List Int) : Prop := ∀ i, rk r i ≠ -1 → rk s i = rk r i
theorem Mono.refl (r : List Int) : Mono r r := fun _ _ => rfl
theorem Mono.trans {a b c : List Int} (h : Mono a b) (g : Mono b c) : Mono a c := fun i hi => by
  have h1 := h i hi
  rw [g i (by rw [h1]; exact hi), h1]
theorem above_all {r : List Int} {l : List Nat} {a : Int} (h : aboveI r l a ≠ -1) : ∀ i ∈ l, rk r i ≠ -1 := fun i hi e => h (above_un l a ⟨i, hi, e⟩)
theorem con_step {ns : List (List Nat)} {r : List Int} (h : Con ns r) {k : Nat} (hk : k < ns.length) : Con ns (r.set k (aboveI r (nd ns k) 0)) ∧ Mono r (r.set k (aboveI r (nd ns k) 0)) := by
  have hkl : k < r.length := by rw [h.len]; exact hk
  have hm : Mono r (r.set k (aboveI r (nd ns k) 0)) := fun i hi => by
    rw [rk_set _ _ _ _ hkl]
    by_cases e : i = k
    · subst e; rw [if_pos rfl, h.eq i hk hi]
    · rw [if_neg e]
  refine ⟨⟨by rw [List.length_set, h.len], fun i => ?_, fun i hi hne => ?_⟩, hm⟩
  · rw [rk_set _ _ _ _ hkl]
    split
    · exact above_ge h.lo _ _ (by omega)
    · exact h.lo i
  · have key : rk (r.set k (aboveI r (nd ns k) 0)) i = aboveI r (nd ns i) 0 := by
      rw [rk_set _ _ _ _ hkl] at hne ⊢
      by_cases e : i = k
      · subst e; rw [if_pos rfl]
      · rw [if_neg e] at hne ⊢; exact (h.eq i hi hne).symm
    rw [key] at hne ⊢
    exact above_congr _ _ fun j hj => hm j (above_all hne j hj)
theorem con_sweep {ns : List (List Nat)} {r : List Int} (h : Con ns r) : ∀ k : Nat, k ≤ ns.length → Con ns (sweepN ns r k) ∧ Mono r (sweepN ns r k)
  | 0, _ => ⟨h, Mono.refl _⟩
  | k + 1, hk => by
    obtain ⟨h1, h2⟩ := con_sweep h k (by omega)
    obtain ⟨h3, h4⟩ := con_step h1 (k := k) (by omega)
    exact ⟨h3, h2.trans h4⟩
theorem mono_sweep {ns : List (List Nat)} {r : List Int} (h : Con ns r) (k : Nat) : ∀ m : Nat, k + m ≤ ns.length → Mono (sweepN ns r k) (sweepN ns r (k + m))
  | 0, _ => Mono.refl _
  | m + 1, hm => by
    have h1 : k + m < ns.length := by omega
    exact (mono_sweep h k m (by omega)).trans (con_step (con_sweep h (k + m) (by omega)).1 h1).2
theorem con_pass (ns : List (List Nat)) : ∀ p, Con ns (passN ns p)
  | 0 => ⟨pass_len ns 0, fun i => (bd_pass ns 0 i).1, fun i hi hne => by
      exfalso; apply hne
      unfold passN rk
      rw [List.getD_eq_getElem?_getD, List.getElem?_replicate, if_pos hi]; rfl⟩
  | p + 1 => (con_sweep (con_pass ns p) _ (Nat.le_refl _)).1
def cnt (p : Nat → Bool) : Nat → Nat
  | 0 => 0
  | n + 1 => cnt p n + (if p n = true then 1 else 0)
theorem cnt_le (p q : Nat → Bool) : ∀ n, (∀ i, i < n → p i = true → q i = true) → cnt p n ≤ cnt q n
  | 0, _ => Nat.le_refl _
  | n + 1, h => by
    have := cnt_le p q n fun i hi => h i (by omega)
    have h2 := h n (by omega)
    unfold cnt
    by_cases hp : p n = true
    · rw [if_pos hp, if_pos (h2 hp)]; omega
    · rw [if_neg hp]; omega
theorem cnt_lt (p q : Nat → Bool) : ∀ n, (∀ i, i < n → p i = true → q i = true) → (∃ i, i < n ∧ q i = true ∧ p i = false) → cnt p n < cnt q n
  | 0, _, ⟨i, h, _⟩ => absurd h (by omega)
  | n + 1, h, ⟨i, hi, hq, hp⟩ => by
    unfold cnt
    by_cases e : i = n
    · subst e
      have := cnt_le p q i fun j hj => h j (by omega)
      rw [if_pos hq, if_neg (by rw [hp]; decide)]; omega
    · have := cnt_lt p q n (fun j hj => h j (by omega)) ⟨i, by omega, hq, hp⟩
      have h2 := h n (by omega)
      by_cases hp : p n = true
      · rw [if_pos hp, if_pos (h2 hp)]; omega
      · rw [if_neg hp]; omega
theorem cnt_bd (p : Nat → Bool) : ∀ n, cnt p n ≤ n
  | 0 => Nat.le_refl _
  | n + 1 => by unfold cnt; have := cnt_bd p n; split <;> omega
theorem cnt_all (p : Nat → Bool) (n : Nat) (h : n ≤ cnt p n) : ∀ i, i < n → p i = true := fun i hi => by
  by_cases hp : p i = true
  · exact hp
  · have h1 := cnt_lt p (fun _ => true) n (fun _ _ _ => rfl) ⟨i, hi, rfl, by simpa using hp⟩
    have h2 := cnt_bd (fun _ => true) n
    omega
def Fix (ns : List (List Nat)) (r : List Int) : Prop := ∀ i, i < ns.length → aboveI r (nd ns i) 0 = rk r i
def isR (r : List Int) (i : Nat) : Bool := decide (rk r i ≠ -1)
theorem fix_sweep {ns : List (List Nat)} {r : List Int} (hl : r.length = ns.length) (h : Fix ns r) : ∀ k : Nat, k ≤ ns.length → ∀ i, rk (sweepN ns r k) i = rk r i
  | 0, _ => fun _ => rfl
  | k + 1, hk => fun i => by
    have ih := fix_sweep hl h k (by omega)
    unfold sweepN
    rw [rk_set _ _ _ _ (by rw [sweep_len]; omega), ih]
    by_cases e : i = k
    · subst e
      rw [if_pos rfl, above_congr _ _ (fun j _ => ih j), h i (by omega)]
    · rw [if_neg e]
theorem fix_of_eq {ns : List (List Nat)} {r s : List Int} (h : Fix ns r) (e : ∀ i, rk s i = rk r i) : Fix ns s := fun i hi => by
  rw [above_congr _ _ (fun j _ => e j), h i hi, e]
theorem still_fix {ns : List (List Nat)} {r : List Int} (hc : Con ns r) (h : ∀ i, i < ns.length → rk (sweepN ns r ns.length) i ≠ -1 → rk r i ≠ -1) : Fix ns r := fun i hi => by
  have hk : ∀ k, k ≤ ns.length → ∀ j, rk (sweepN ns r k) j = rk r j := fun k hk j => by
    obtain ⟨h1, h2⟩ := con_sweep hc k hk
    by_cases hr : rk r j = -1
    · by_cases hs : rk (sweepN ns r k) j = -1
      · rw [hs, hr]
      · exfalso
        have h3 := mono_sweep hc k (ns.length - k) (by omega) j hs
        rw [show k + (ns.length - k) = ns.length by omega] at h3
        by_cases hj : j < ns.length
        · exact h j hj (by rw [h3]; exact hs) hr
        · have : rk r j = 0 := by unfold rk; rw [List.getD_eq_getElem?_getD, List.getElem?_eq_none (by rw [hc.len]; omega)]; rfl
          omega
    · exact h2 j hr
  have h1 := hk (i + 1) (by omega) i
  unfold sweepN at h1
  rw [rk_set _ _ _ _ (by rw [sweep_len, hc.len]; exact hi), if_pos rfl, above_congr _ _ (fun j _ => hk i (by omega) j)] at h1
  exact h1
theorem pass_fix (ns : List (List Nat)) : ∀ p, Fix ns (passN ns p) ∨ p ≤ cnt (isR (passN ns p)) ns.length
  | 0 => .inr (Nat.zero_le _)
  | p + 1 => by
    have hc := con_pass ns p
    obtain ⟨_, hm⟩ := con_sweep hc ns.length (Nat.le_refl _)
    rcases pass_fix ns p with h | h
    · exact .inl (fix_of_eq h (fix_sweep (pass_len ns p) h ns.length (Nat.le_refl _)))
    · by_cases hx : ∃ i, i < ns.length ∧ isR (passN ns (p + 1)) i = true ∧ isR (passN ns p) i = false
      · right
        have := cnt_lt (isR (passN ns p)) (isR (passN ns (p + 1))) ns.length (fun i hi hp => by
          unfold isR at hp ⊢
          have hp := of_decide_eq_true hp
          refine decide_eq_true ?_
          show rk (sweepN ns (passN ns p) ns.length) i ≠ -1
          rw [hm i hp]; exact hp) hx
        omega
      · left
        have hf : Fix ns (passN ns p) := still_fix hc fun i hi hs hr => hx ⟨i, hi, decide_eq_true hs, by unfold isR; rw [hr]; rfl⟩
        exact fix_of_eq hf (fix_sweep (pass_len ns p) hf ns.length (Nat.le_refl _))
theorem rankF_fix (ns : List (List Nat)) : Fix ns (rankF ns) := by
  rcases pass_fix ns ns.length with h | h
  · exact h
  · intro i hi
    have := cnt_all _ _ h i hi
    exact (con_pass ns ns.length).eq i hi (of_decide_eq_true this)
end Go.Proofs.YtdefaeieiaegaaaGreatDoor.RkM
namespace Go.Proofs.YtdefaeieiaegaaaGreatDoor.RegI
set_option linter.unusedVariables false
/-- D, and i besides. -/
def upd (D : Nat → Bool) (i : Nat) : Nat → Bool := fun j => j == i || D j
theorem upd_at (D : Nat → Bool) (i : Nat) : upd D i i = true := by simp [upd]
theorem upd_ne (D : Nat → Bool) (i j : Nat) (h : j ≠ i) : upd D i j = D j := by simp [upd, h]
/-- The results so far (f i: of operation i), laid into the frame; l: which slot is whose. -/
def fill (a : Act) (f : Nat → Value) : List (Nat × Tmp) → Act
  | [] => a
  | (i, s) :: l => (fill a f l).put (some s) (f i)
def updf (f : Nat → Value) (i : Nat) (v : Value) : Nat → Value := fun j => bif j == i then v else f j
theorem updf_at (f : Nat → Value) (i : Nat) (v : Value) : updf f i v i = v := by simp [updf]
theorem updf_ne (f : Nat → Value) (i j : Nat) (v : Value) (h : j ≠ i) : updf f i v j = f j := by
  have : (j == i) = false := by simp [h]
  simp only [updf, this, cond_false]
def AllFrom (p : Nat → Oper → Prop) : Nat → List Oper → Prop
  | _, [] => True
  | n, o :: r => p n o ∧ AllFrom p (n + 1) r
theorem AllFrom.at {p : Nat → Oper → Prop} : ∀ {l : List Oper} {n : Nat}, AllFrom p n l → ∀ i o, l[i]? = some o → p (n + i) o
  | [], _, _, i, o, h => by simp at h
  | x :: l, n, ⟨h1, h2⟩, i, o, h => by
    cases i with
    | zero => simp at h; subst h; exact h1
    | succ i => simp at h; have := AllFrom.at h2 i o h; rw [show n + (i + 1) = n + 1 + i by omega]; exact this
def edges (ops : Array Oper) : Bool := (List.range ops.size).all fun i => ((ops[i]?).map fun o => o.after.all fun e => decide (e.on < i) || !Region.binds .any e).getD true
variable {P : Program} {ops : Array Oper} {Q : Exit → Act → World → Prop}
def cnt (L : Array Bool) : Nat := L.toList.countP (fun b => !b)
theorem cnt_set (L : Array Bool) (i : Nat) (h : L.getD i true = false) : cnt (L.setIfInBounds i true) + 1 = cnt L := by
  unfold cnt
  obtain ⟨l⟩ := L
  simp only [List.setIfInBounds_toArray]
  have h' : l[i]? = some false := by
    have : (l.toArray)[i]?.getD true = false := by rw [← Array.getD_eq_getD_getElem?]; exact h
    simp at this
    cases e : l[i]? with
    | none => rw [e] at this; simp at this
    | some b => rw [e] at this; simp at this; rw [this]
  clear h
  induction l generalizing i with
  | nil => simp at h'
  | cons b l ih =>
    cases i with
    | zero => simp at h'; subst h'; simp
    | succ i =>
      simp at h'
      have := ih i h'
      simp only [List.set_cons_succ, List.countP_cons]
      omega
theorem ready_mem {i : Nat} {L : Array Bool} (h : i ∈ Region.ready .any ops L) : i < ops.size ∧ L.getD i true = false ∧ ∀ o, ops[i]? = some o → ∀ e ∈ o.after, Region.binds .any e = true → L.getD e.on false = true := by
  unfold Region.ready at h
  simp only [List.mem_filter, List.mem_range, Bool.and_eq_true, Bool.not_eq_true'] at h
  refine ⟨h.1, h.2.1, fun o ho e he hb => ?_⟩
  have h2 := h.2.2
  rw [ho] at h2
  simp only [Option.map_some, Option.getD_some, Array.all_eq_true_iff_forall_mem] at h2
  have := h2 e he
  rw [hb] at this
  simpa using this
theorem ready_nil (hac : edges ops = true) {L : Array Bool} (hz : L.size = ops.size) (h : Region.ready .any ops L = []) : ∀ i, i < ops.size → L.getD i true = true := by
  intro i
  induction i using Nat.strongRecOn with
  | _ i ih =>
    intro hi
    cases hL : L.getD i true with
    | true => rfl
    | false =>
      exfalso
      have hm : i ∈ Region.ready .any ops L := by
        unfold Region.ready
        simp only [List.mem_filter, List.mem_range, Bool.and_eq_true, Bool.not_eq_true']
        refine ⟨hi, hL, ?_⟩
        have ho : ops[i]? = some ops[i] := by simp [hi]
        rw [ho]
        simp only [Option.map_some, Option.getD_some, Array.all_eq_true_iff_forall_mem]
        intro e he
        cases hb : Region.binds .any e with
        | false => simp
        | true =>
          unfold edges at hac
          simp only [List.all_eq_true, List.mem_range] at hac
          have h1 := hac i hi
          rw [ho] at h1
          simp only [Option.map_some, Option.getD_some, Array.all_eq_true_iff_forall_mem] at h1
          have h2 := h1 e he
          rw [hb] at h2
          simp only [Bool.not_true, Bool.or_false, decide_eq_true_eq] at h2
          have h3 := ih e.on h2 (by omega)
          have h4 : L.getD e.on false = true := by
            have hl : e.on < L.size := by omega
            simp only [Array.getD, hl, dif_pos] at h3 ⊢
            exact h3
          rw [h4]; simp
      rw [h] at hm
      cases hm
/-- What one step is asked: run operation i under any post that the invariant behind it pays. -/
def Step (P : Program) (ops : Array Oper) (Q : Exit → Act → World → Prop) (I : (Nat → Bool) → Act → World → Prop) (i : Nat) (o : Oper) : Prop :=
  ∀ (D : Nat → Bool) (a : Act) (w : World), I D a w → D i = false → (∀ e ∈ o.after, Region.binds .any e = true → D e.on = true) →
    ∀ K : Act → World → Prop, (∀ a' w', I (upd D i) a' w' → K a' w') → if Region.wanted o (yielded ops a.tmps) = true then Oper.wp P o a w K Q else K (a.put o.dst undef) w
theorem any_inv (hac : edges ops = true) (I : (Nat → Bool) → Act → World → Prop) (hs : AllFrom (Step P ops Q I) 0 ops.toList)
    (he : ∀ D a w, I D a w → (∀ i, i < ops.size → D i = true) → Q .normal a w) : ∀ (n : Nat) (L : Array Bool) (a : Act) (w : World), L.size = ops.size → cnt L ≤ n → I (fun i => L.getD i false) a w → wpAny P .any ops Q n L a w := by
  have hend : ∀ (L : Array Bool) (a : Act) (w : World), L.size = ops.size → I (fun i => L.getD i false) a w → Region.ready .any ops L = [] → Q .normal a w := fun L a w hz hI hr =>
    he _ a w hI fun i hi => by
      have := ready_nil hac hz hr i hi
      have hl : i < L.size := by omega
      simp only [Array.getD, hl, dif_pos] at this ⊢
      exact this
  intro n
  induction n with
  | zero =>
    intro L a w hz hc hI
    have hr : Region.ready .any ops L = [] := by
      cases h : Region.ready .any ops L with
      | nil => rfl
      | cons i r =>
        have := cnt_set L i (ready_mem (h ▸ List.mem_cons_self)).2.1
        omega
    exact ⟨hr, hend L a w hz hI hr⟩
  | succ n ih =>
    intro L a w hz hc hI
    refine ⟨hend L a w hz hI, fun i hi => ?_⟩
    obtain ⟨h1, h2, h3⟩ := ready_mem hi
    have ho : ops[i]? = some ops[i] := by simp [h1]
    have hst := AllFrom.at hs i ops[i] (by rw [← ho, Array.getElem?_toList])
    rw [Nat.zero_add] at hst
    have hl : i < L.size := by omega
    exact wpOp_step ho (fun K' hK' => by
      have hq := hst _ a w hI (by simp only [Array.getD, hl, dif_pos] at h2 ⊢; exact h2) (fun e he hb => h3 _ ho e he hb) K' (fun a' w' h' => hK' _ _ (by
      have hc' := cnt_set L i h2
      refine ih _ a' w' (by simp [hz]) (by omega) ?_
      have : (fun j => (L.setIfInBounds i true).getD j false) = upd (fun j => L.getD j false) i := by
        funext j
        simp only [upd, Array.getD_eq_getD_getElem?, Array.getElem?_setIfInBounds]
        by_cases e : i = j
        · subst e; simp [hl]
        · have : (j == i) = false := by simp; omega
          simp [e, this]
      rw [this]; exact h'))
      exact hq)
/-- One step, the frame given (F) by what has been carried out. -/
def StepF (P : Program) (ops : Array Oper) (Q : Exit → Act → World → Prop) (F : (Nat → Value) → Act) (J : (Nat → Bool) → (Nat → Value) → World → Prop) (i : Nat) (o : Oper) : Prop :=
  ∀ (D : Nat → Bool) (f : Nat → Value) (w : World), J D f w → D i = false → (∀ e ∈ o.after, Region.binds .any e = true → D e.on = true) →
    ∀ K : Act → World → Prop, (∀ f' w', J (upd D i) f' w' → K (F f') w') → if Region.wanted o (yielded ops (F f).tmps) = true then Oper.wp P o (F f) w K Q else K ((F f).put o.dst undef) w
theorem AllFrom.mono {p q : Nat → Oper → Prop} (h : ∀ i o, p i o → q i o) : ∀ {l : List Oper} {n : Nat}, AllFrom p n l → AllFrom q n l
  | [], _, _ => trivial
  | _ :: _, _, ⟨h1, h2⟩ => ⟨h _ _ h1, AllFrom.mono h h2⟩
/-- A region that draws its order, by an invariant I over what has been carried out. -/
theorem region_inv {id : Nat} {a : Act} {w : World} (I : (Nat → Bool) → Act → World → Prop) (hm : P.follows .mixedOrders = true) (hac : edges ops = true)
    (h0 : I (fun _ => false) a w.drew) (hs : AllFrom (Step P ops Q I) 0 ops.toList) (he : ∀ D a w, I D a w → (∀ i, i < ops.size → D i = true) → Q .normal a w) : (Code.region id ops true).wp P Q a w := by
  refine wp_region_any hm (any_inv hac I hs he ops.size _ a _ (by simp) ?_ ?_)
  · unfold cnt; have := List.countP_le_length (p := fun b => !b) (l := (Array.replicate ops.size false).toList); simpa using this
  · have : (fun i => (Array.replicate ops.size false).getD i false) = fun _ => false := by
      funext i
      simp only [Array.getD_eq_getD_getElem?, Array.getElem?_replicate]
      split <;> rfl
    rw [this]; exact h0
theorem op_move {P : Program} {w : World} {o : Oper} {ρ : Operand → Value} {x : Operand} {v : Value} (ho : o.op = .move x) (hx : ρ x = v) : (execOp ρ o).run P w = .ok (.value v) w := by
  unfold execOp; rw [ho]; subst hx; rfl
theorem stepF_val {P : Program} {w w' : World} {o : Oper} {K : Act → World → Prop} {Q : Exit → Act → World → Prop} {E : Prop} {ys : Nat → Option Bool} {F : (Nat → Value) → Act} {f f' : Nat → Value} {v : Value} (hg : o.guard = none)
    (h : (execOp (F f).eval o).run P w = .ok (.value v) w') (hf : (F f).put o.dst v = F f') (hK : K (F f') w') : if Region.wanted o ys = true then Oper.wp P o (F f) w K Q else E := by
  rw [if_pos (by simp [Region.wanted, hg])]
  unfold Oper.wp; rw [h, Oper.upon_value, hf]; exact hK
/-- What an operation stands behind is done. -/
theorem done {D : Nat → Bool} {o : Oper} (h : ∀ e ∈ o.after, Region.binds .any e = true → D e.on = true) (j : Nat) (hj : (o.after.any fun e => e.on == j && Region.binds .any e) = true) : D j = true := by
  rw [Array.any_eq_true'] at hj
  obtain ⟨e, he, h2⟩ := hj
  rw [Bool.and_eq_true] at h2
  have := h e he h2.2
  rw [beq_iff_eq] at h2
  rw [← h2.1]; exact this
end Go.Proofs.YtdefaeieiaegaaaGreatDoor.RegI
namespace Go.Proofs.YtdefaeieiaegaaaGreatDoor.RegI
open Go.RowKit
set_option linter.unusedVariables false
theorem op_bin {P : Program} {w : World} {o : Oper} {ρ : Operand → Value} {b : BinOp} {t u : TypeId} {x y : Operand} {p q v : Value} (ho : o.op = .binOp b t x y u) (hx : ρ x = p) (hy : ρ y = q) (h : (do eqGuard b t x y p q; binOp b t p q : Sem Value).run P w = .ok v w) : (execOp ρ o).run P w = .ok (.value v) w := by
  unfold execOp; rw [ho]; subst hx; subst hy; simp only [Sem.run_bind] at h ⊢; rw [h]; rfl
end Go.Proofs.YtdefaeieiaegaaaGreatDoor.RegI
namespace Go.Proofs.YtdefaeieiaegaaaGreatDoor.RegI
open Go.RowKit
set_option linter.unusedVariables false
theorem op_assign {P : Program} {w : World} {o : Oper} {ρ : Operand → Value} {x : Operand} {v : Value} (ho : o.op = .assign x) (hx : ρ x = v) : (execOp ρ o).run P w = .ok (.value v) w := by
  unfold execOp; rw [ho]; subst hx; rfl
theorem op_slice {P : Program} {w : World} {o : Oper} {ρ : Operand → Value} {t : TypeId} {x : Operand} {a b c : Option Operand} {p v : Value} {a' b' c' : Option Value} (ho : o.op = .slice t x a b c) (hx : ρ x = p) (ha : a.map ρ = a') (hb : b.map ρ = b') (hc : c.map ρ = c') (h : (Instr.sliceAt t p a' b' c').run P w = .ok v w) : (execOp ρ o).run P w = .ok (.value v) w := by
  unfold execOp; rw [ho]; subst hx; subst ha; subst hb; subst hc; simp only [Sem.run_bind, h]; rfl
def JP (T : Nat → Value) (E : Nat) (A B : World → Prop) (D : Nat → Bool) (f : Nat → Value) (w : World) : Prop :=
  (∀ i, D i = true → f i = T i) ∧ (D E = false → A w) ∧ (D E = true → B w)
theorem jp_start {T : Nat → Value} {E : Nat} {A B : World → Prop} {w : World} (h : A w) (f : Nat → Value) : JP T E A B (fun _ => false) f w :=
  ⟨fun i h => by simp at h, fun _ => h, fun h => by simp at h⟩
theorem jp_pure {T : Nat → Value} {E : Nat} {A B : World → Prop} {D : Nat → Bool} {f : Nat → Value} {w : World} (h : JP T E A B D f w) {i : Nat} {v : Value} (hi : i ≠ E) (hv : v = T i) : JP T E A B (upd D i) (updf f i v) w := by
  refine ⟨fun j hj => ?_, fun hE => h.2.1 (by rw [upd_ne _ _ _ (fun e => hi e.symm)] at hE; exact hE), fun hE => h.2.2 (by rw [upd_ne _ _ _ (fun e => hi e.symm)] at hE; exact hE)⟩
  by_cases e : j = i
  · subst e; rw [updf_at]; exact hv
  · rw [updf_ne _ _ _ _ e]; rw [upd_ne _ _ _ e] at hj; exact h.1 j hj
theorem jp_eff {T : Nat → Value} {E : Nat} {A B : World → Prop} {D : Nat → Bool} {f : Nat → Value} {w w' : World} (h : JP T E A B D f w) {v : Value} (hv : v = T E) (hB : B w') : JP T E A B (upd D E) (updf f E v) w' := by
  refine ⟨fun j hj => ?_, fun (hE : upd D E E = false) => absurd hE (by rw [upd_at]; decide), fun _ => hB⟩
  by_cases e : j = E
  · subst e; rw [updf_at]; exact hv
  · rw [updf_ne _ _ _ _ e]; rw [upd_ne _ _ _ e] at hj; exact h.1 j hj
/-- region_fill, of the frame that stands there at the start alone. -/
theorem region_fill0 {P : Program} {ops : Array Oper} {Q : Exit → Act → World → Prop} {id : Nat} {a : Act} {w : World} (l : List (Nat × Tmp)) (J : (Nat → Bool) → (Nat → Value) → World → Prop) {F : (Nat → Value) → Act} (hF : ∀ f, fill a f l = F f) (hm : P.follows .mixedOrders = true) (hac : edges ops = true)
    (hf : F (fun i => (a.tmps[(l.lookup i).getD 0]?).getD undef) = a) (h0 : J (fun _ => false) (fun i => (a.tmps[(l.lookup i).getD 0]?).getD undef) w.drew) (hs : ∀ F', (∀ f, F' f = F f) → AllFrom (StepF P ops Q F' J) 0 ops.toList)
    (he : ∀ D f w, J D f w → (∀ i, i < ops.size → D i = true) → Q .normal (F f) w) : (Code.region id ops true).wp P Q a w := by
  refine region_inv (fun D a' w' => ∃ f, a' = F f ∧ J D f w') hm hac ⟨_, hf.symm, h0⟩ (AllFrom.mono (fun i o h D a' w' hI hD hdep K hK => ?_) (hs F fun _ => rfl)) (fun D a' w' hI hall => ?_)
  · obtain ⟨f, rfl, hJ⟩ := hI
    exact h D f w' hJ hD hdep K (fun f' w'' hJ' => hK _ _ ⟨f', rfl, hJ'⟩)
  · obtain ⟨f, rfl, hJ⟩ := hI
    exact he D f w' hJ hall
/-- JP, where the last operation S writes a slot that is read ahead of it: it holds v0 till then. -/
def JPW (T : Nat → Value) (E S : Nat) (v0 : Value) (A B : World → Prop) (D : Nat → Bool) (f : Nat → Value) (w : World) : Prop :=
  JP T E A B D f w ∧ (D S = false → f S = v0) ∧ (D S = true → ∀ i, i < S → D i = true)
theorem jpw_start {T : Nat → Value} {E S : Nat} {v0 : Value} {A B : World → Prop} {w : World} (h : A w) {f : Nat → Value} (hv : f S = v0) : JPW T E S v0 A B (fun _ => false) f w := ⟨jp_start h f, fun _ => hv, fun h => by simp at h⟩
theorem jpw_pure {T : Nat → Value} {E S : Nat} {v0 : Value} {A B : World → Prop} {D : Nat → Bool} {f : Nat → Value} {w : World} (h : JPW T E S v0 A B D f w) {i : Nat} {v : Value} (hi : i ≠ E) (hs : i ≠ S) (hv : v = T i) : JPW T E S v0 A B (upd D i) (updf f i v) w := by
  refine ⟨jp_pure h.1 hi hv, fun hS => ?_, fun hS j hj => ?_⟩
  · rw [upd_ne _ _ _ (fun e => hs e.symm)] at hS; rw [updf_ne _ _ _ _ (fun e => hs e.symm)]; exact h.2.1 hS
  · rw [upd_ne _ _ _ (fun e => hs e.symm)] at hS
    by_cases e : j = i
    · subst e; exact upd_at _ _
    · rw [upd_ne _ _ _ e]; exact h.2.2 hS j hj
theorem jpw_eff {T : Nat → Value} {E S : Nat} {v0 : Value} {A B : World → Prop} {D : Nat → Bool} {f : Nat → Value} {w w' : World} (h : JPW T E S v0 A B D f w) (hES : S ≠ E) {v : Value} (hv : v = T E) (hB : B w') : JPW T E S v0 A B (upd D E) (updf f E v) w' := by
  refine ⟨jp_eff h.1 hv hB, fun hS => ?_, fun hS j hj => ?_⟩
  · rw [upd_ne _ _ _ hES] at hS; rw [updf_ne _ _ _ _ hES]; exact h.2.1 hS
  · rw [upd_ne _ _ _ hES] at hS
    by_cases e : j = E
    · subst e; exact upd_at _ _
    · rw [upd_ne _ _ _ e]; exact h.2.2 hS j hj
theorem jpw_last {T : Nat → Value} {E S : Nat} {v0 : Value} {A B : World → Prop} {D : Nat → Bool} {f : Nat → Value} {w : World} (h : JPW T E S v0 A B D f w) {v : Value} (hi : S ≠ E) (hv : v = T S) (hall : ∀ i, i < S → D i = true) : JPW T E S v0 A B (upd D S) (updf f S v) w := by
  refine ⟨jp_pure h.1 hi hv, fun (hS : upd D S S = false) => absurd hS (by rw [upd_at]; decide), fun _ j hj => ?_⟩
  rw [upd_ne _ _ _ (by omega)]; exact hall j hj
theorem jpw_v0 {T : Nat → Value} {E S : Nat} {v0 : Value} {A B : World → Prop} {D : Nat → Bool} {f : Nat → Value} {w : World} (h : JPW T E S v0 A B D f w) {i : Nat} (hi : i < S) (hD : D i = false) : f S = v0 := by
  refine h.2.1 ?_
  cases hS : D S with
  | false => rfl
  | true => rw [h.2.2 hS i hi] at hD; cases hD
end Go.Proofs.YtdefaeieiaegaaaGreatDoor.RegI
namespace Go.Proofs.YtdefaeieiaegaaaGreatDoor.NmV
open Go.RowKit Go.Shelf
open ExM NmM Kit ExL ExV
set_option linter.unusedVariables false
attribute [local go_sem] Oper.semAt_some
/-- A name as it is handed out. -/
abbrev Nm := { s : ByteArray // s.size ≤ maxLen }
def encs (x : Nm) : Array Value := #[.string x.1]
def bare (l : List Nm) : List ByteArray := l.map Subtype.val
theorem bare_append (l m : List Nm) : bare (l ++ m) = bare l ++ bare m := List.map_append
theorem bare_len (l : List Nm) : (bare l).length = l.length := List.length_map _
def VOut (w0 : World) (n₁ : Nat) (J Jx : List Nm → World → Prop) (pre : List Nm) (P : List ByteArray) (W : World) (e : Ending) (W' : World) : Prop :=
  (e = .returned (.bool true) ∧ (∃ ys : List Nm, bare ys = P ∧ J (pre ++ ys) W') ∧ Kp w0.heap.size n₁ W W') ∨ (e = .returned (.bool false) ∧ ∃ q : List Nm, bare q <+: P ∧ Jx (pre ++ q) W')
structure VInv (w0 : World) (n₁ : Nat) (J : List Nm → World → Prop) (pre : List Nm) (P : List ByteArray) (W : World) (ys : List Nm) (wr : World) : Prop where
  is : bare ys = P
  j : J (pre ++ ys) wr
  kp : Kp w0.heap.size n₁ W wr
  below : Below w0.heap.size w0 wr
  le : n₁ ≤ wr.heap.size
theorem VInv.step {w0 : World} {n₁ : Nat} {J : List Nm → World → Prop} {pre : List Nm} {p0 : List ByteArray} {l : List Ex} {k : Nat} {W wr w2 : World} {ys zs : List Nm} {o : Obj} (h : VInv w0 n₁ J pre (p0 ++ refsL (l.take k)) W ys wr) (hk : k < l.length)
    (hz : bare zs = Ex.refs l[k]) (hj : J (pre ++ ys ++ zs) w2) (hp : Kp w0.heap.size n₁ (wr.alloc o) w2) : VInv w0 n₁ J pre (p0 ++ refsL (l.take (k + 1))) W (ys ++ zs) w2 := by
  have hp2 : Kp w0.heap.size n₁ wr w2 := (Kp.alloc o h.below.size).trans hp
  exact ⟨by rw [bare_append, h.is, hz, refsL_at l k hk, List.append_assoc], by rw [← List.append_assoc]; exact hj, h.kp.trans hp2, h.below.trans hp2.below, by have := hp2.below.size; have := h.le; omega⟩
set_option maxRecDepth 100000 in
set_option maxHeartbeats 2000000 in
theorem visit_in (F : Fence) (hd : F.depth = none) (hv : F.fn 205) (hro : F.round = none) (l n₁ N : Nat) (w0 : World) (J Jx : List Nm → World → Prop)
    (hJ : ∀ s W o, J s W → J s (W.alloc o))
    (hY : ∀ m pre (x : Nm) W, J pre W → pre.length < N → YieldAt F m Tryz.prog l (encs x) W fun e W' => (e = .returned (.bool true) ∧ J (pre ++ [x]) W' ∧ Kp w0.heap.size n₁ W W') ∨ (e = .returned (.bool false) ∧ Jx (pre ++ [x]) W')) :
    ∀ (x : Ex) (d : Nd) (A : Option Addr) (m c : Nat) (n : Nat) (pre : List Nm) (W : World), Is w0 x d A m → Below w0.heap.size w0 W → n₁ ≤ W.heap.size → J pre W → pre.length + (Ex.refs x).length ≤ N →
      CallsIn F n Tryz.prog 205 #[.agg #[.int .i64 d.op, .int .i64 d.k, .int .i64 d.n, .string d.s, .string d.nm, .slice A m c], .func (.yield l) #[] #[]] W (VOut w0 n₁ J Jx pre (Ex.refs x) W) := by
  refine Ex.ind fun d l' ih => ?_
  intro d' A m c n pre W his hB hn hj hN
  rw [is_mk] at his
  obtain ⟨rfl, rfl, ⟨hm, hs1, hs2⟩, his⟩ := his
  have hdd : ∀ k : Nat, (F.depth.isSome = true → 1 ≤ k) := fun k h => by rw [hd] at h; cases h
  obtain ⟨p0, hp0⟩ : ∃ p0, (if d'.op = 2 then [d'.nm] else []) = p0 := ⟨_, rfl⟩
  have hrf : Ex.refs (.mk d' l') = p0 ++ refsL l' := by rw [refs_mk, hp0]
  rw [hrf] at hN ⊢
  rw [List.length_append] at hN
  have hj1 := hJ _ _ (.cells #[.int .i64 d'.op, .int .i64 d'.k, .int .i64 d'.n, .string d'.s, .string d'.nm, .slice A l'.length c] 50) hj
  have HS := Lib.hid his
  have HI := Lib.hid ih
  have HN := Lib.hid hN
  clear his ih hrf hN
  unfold maxLen at hm
  by_cases hop : d'.op = 2
  · rw [if_pos hop] at hp0
    have hy1 := hY (n - 1) pre ⟨d'.nm, hs2⟩ _ hj1 (by have := HN.out; rw [← hp0] at this; simp at this; omega)
    obtain ⟨fn, tmps, assign, body, hy, hR⟩ := hy1
    unfold encs at hy
    dsimp only at hy
    have HR := Lib.hid hR
    have HP := Lib.hid hp0
    have t0 : (d'.op == 2) = true := beq_iff_eq.2 hop
    clear hj hj1 hR hp0 hop
    refine callsIn_of_wp Tryz.func205 rfl hv ?_ hro
    simp only [Tryz.ntmps205, List.size_toArray, List.length_cons, List.length_nil, Nat.reduceAdd, Nat.reduceSub, Array.replicate_succ, Array.replicate_zero, List.push_toArray, List.append_toArray, List.nil_append, List.cons_append]
    gi_wp2_with fail
    refine HR.out.mono ?_; clear HR hy; rintro e W1 (⟨rfl, hj1, hk1⟩ | ⟨rfl, hx1⟩)
    · have hc5 : W1.cell? ⟨W.heap.size, 5, none⟩ = some (.slice A l'.length c) := by rw [hk1.box hn]; rfl
      have hkW : Kp w0.heap.size n₁ W W1 := (Kp.alloc _ hB.size).trans hk1
      have hI0 : VInv w0 n₁ J pre (p0 ++ refsL (l'.take 0)) W [⟨d'.nm, hs2⟩] W1 := ⟨by rw [← HP.out]; simp [bare, refsL_nil], hj1, hkW, hB.trans hkW.below, by have := hkW.below.size; omega⟩
      have HI0 := Lib.hid hI0
      clear hI0 hkW hk1 hj1 t0
      gi_wp2_with fail
      gi_loopw [6, 20] (fun _ i wr => ∃ (k : Nat) (ys : List Nm), i = .int .i64 k ∧ k ≤ l'.length ∧ VInv w0 n₁ J pre (p0 ++ refsL (l'.take k)) W ys wr) (fun _ i _ => l'.length - (intOf i).toNat)
      case atStart => exact ⟨0, _, rfl, Nat.zero_le _, HI0.out⟩
      case round =>
        obtain ⟨k, ys, rfl, hk, hV⟩ := hrel
        have HV := Lib.hid hV
        clear hV
        by_cases hlt : k < l'.length
        · obtain ⟨a, d2, B, m2, c2, rfl, hat, hi⟩ := HS.out k hlt
          obtain ⟨h0, h1, h2, h3, h4, h5⟩ := hat.below HV.out.below
          have hVb := HV.out.below
          have hVn := HV.out.le
          have hcx := HI.out _ (List.getElem_mem hlt) d2 B m2 c2 (n - 1) (pre ++ ys) (wr.alloc (.cells #[.int .i64 d2.op, .int .i64 d2.k, .int .i64 d2.n, .string d2.s, .string d2.nm, .slice B m2 c2] 50)) hi (hVb.trans ((b_new _ _).mono hVb.size)) (by simp; omega) (hJ _ _ _ HV.out.j) (by
            have e1 : ys.length = (p0 ++ refsL (l'.take k)).length := by rw [← HV.out.is, bare_len]
            have e2 := congrArg List.length (refsL_at l' k hlt)
            have e3 := refsL_take l' (k + 1)
            have e4 := HN.out
            rw [List.length_append] at e1 e2
            rw [List.length_append, e1]; omega)
          have HC := Lib.hid hcx
          clear hcx hat hi hVb
          gi_wp2_with fail
          refine HC.out.mono ?_; rintro e w2 (⟨rfl, ⟨zs, hz, hjz⟩, hkz⟩ | ⟨rfl, q, hq, hxq⟩)
          · have hN : VInv w0 n₁ J pre (p0 ++ refsL (l'.take (k + 1))) W (ys ++ zs) w2 := HV.out.step hlt hz hjz hkz
            have HN2 := Lib.hid hN
            clear hN hz hjz hkz
            gi_wp2_with fail
            go_roundw
            case rel => exact ⟨k + 1, _, by go_num, by omega, HN2.out⟩
            case measure => simp [intOf]; omega
          · have hO : VOut w0 n₁ J Jx pre (p0 ++ refsL l') W (.returned (.bool false)) w2 := .inr ⟨rfl, ys ++ q, by
              rw [bare_append, HV.out.is, List.append_assoc]
              exact (List.prefix_append_right_inj _).2 (refs_prefix l' k hlt hq), by rw [← List.append_assoc]; exact hxq⟩
            have HO := Lib.hid hO
            clear hO hq hxq
            gi_wp2_with fail
            go_ret
            exact HO.out
        · have hkl : k = l'.length := by omega
          have hO : VOut w0 n₁ J Jx pre (p0 ++ refsL l') W (.returned (.bool true)) wr := .inl ⟨rfl, ⟨ys, by rw [HV.out.is, hkl, List.take_length], HV.out.j⟩, HV.out.kp⟩
          have HO := Lib.hid hO
          clear hO hkl
          gi_wp2_with fail
          go_ret
          exact HO.out
    · have hO : VOut w0 n₁ J Jx pre (p0 ++ refsL l') W (.returned (.bool false)) W1 := .inr ⟨rfl, [⟨d'.nm, hs2⟩], by rw [← HP.out]; exact (List.prefix_cons_inj _).2 List.nil_prefix, hx1⟩
      have HO := Lib.hid hO
      clear hO hx1
      gi_wp2_with fail
      go_ret
      exact HO.out
  · rw [if_neg hop] at hp0
    have hkW : Kp w0.heap.size n₁ W (W.alloc (.cells #[.int .i64 d'.op, .int .i64 d'.k, .int .i64 d'.n, .string d'.s, .string d'.nm, .slice A l'.length c] 50)) := Kp.alloc _ hB.size
    have hI0 : VInv w0 n₁ J pre (p0 ++ refsL (l'.take 0)) W [] (W.alloc (.cells #[.int .i64 d'.op, .int .i64 d'.k, .int .i64 d'.n, .string d'.s, .string d'.nm, .slice A l'.length c] 50)) := ⟨by rw [← hp0]; simp [bare, refsL_nil], by rw [List.append_nil]; exact hj1, hkW, hB.trans hkW.below, by have := hkW.below.size; omega⟩
    have HI0 := Lib.hid hI0
    have t0 : (d'.op == 2) = false := beq_eq_false_iff_ne.2 hop
    clear hj hj1 hp0 hop hI0 hkW
    refine callsIn_of_wp Tryz.func205 rfl hv ?_ hro
    simp only [Tryz.ntmps205, List.size_toArray, List.length_cons, List.length_nil, Nat.reduceAdd, Nat.reduceSub, Array.replicate_succ, Array.replicate_zero, List.push_toArray, List.append_toArray, List.nil_append, List.cons_append]
    gi_wp2_with fail
    refine ⟨fun _ h => (by cases h), ?_⟩
    gi_wp2_with fail
    gi_loopw [6, 20] (fun _ i wr => ∃ (k : Nat) (ys : List Nm), i = .int .i64 k ∧ k ≤ l'.length ∧ VInv w0 n₁ J pre (p0 ++ refsL (l'.take k)) W ys wr) (fun _ i _ => l'.length - (intOf i).toNat)
    case atStart => exact ⟨0, _, rfl, Nat.zero_le _, HI0.out⟩
    case round =>
      obtain ⟨k, ys, rfl, hk, hV⟩ := hrel
      have HV := Lib.hid hV
      clear hV
      by_cases hlt : k < l'.length
      · obtain ⟨a, d2, B, m2, c2, rfl, hat, hi⟩ := HS.out k hlt
        obtain ⟨h0, h1, h2, h3, h4, h5⟩ := hat.below HV.out.below
        have hVb := HV.out.below
        have hVn := HV.out.le
        have hcx := HI.out _ (List.getElem_mem hlt) d2 B m2 c2 (n - 1) (pre ++ ys) (wr.alloc (.cells #[.int .i64 d2.op, .int .i64 d2.k, .int .i64 d2.n, .string d2.s, .string d2.nm, .slice B m2 c2] 50)) hi (hVb.trans ((b_new _ _).mono hVb.size)) (by simp; omega) (hJ _ _ _ HV.out.j) (by
          have e1 : ys.length = (p0 ++ refsL (l'.take k)).length := by rw [← HV.out.is, bare_len]
          have e2 := congrArg List.length (refsL_at l' k hlt)
          have e3 := refsL_take l' (k + 1)
          have e4 := HN.out
          rw [List.length_append] at e1 e2
          rw [List.length_append, e1]; omega)
        have HC := Lib.hid hcx
        clear hcx hat hi hVb
        gi_wp2_with fail
        refine HC.out.mono ?_; rintro e w2 (⟨rfl, ⟨zs, hz, hjz⟩, hkz⟩ | ⟨rfl, q, hq, hxq⟩)
        · have hN : VInv w0 n₁ J pre (p0 ++ refsL (l'.take (k + 1))) W (ys ++ zs) w2 := HV.out.step hlt hz hjz hkz
          have HN2 := Lib.hid hN
          clear hN hz hjz hkz
          gi_wp2_with fail
          go_roundw
          case rel => exact ⟨k + 1, _, by go_num, by omega, HN2.out⟩
          case measure => simp [intOf]; omega
        · have hO : VOut w0 n₁ J Jx pre (p0 ++ refsL l') W (.returned (.bool false)) w2 := .inr ⟨rfl, ys ++ q, by
            rw [bare_append, HV.out.is, List.append_assoc]
            exact (List.prefix_append_right_inj _).2 (refs_prefix l' k hlt hq), by rw [← List.append_assoc]; exact hxq⟩
          have HO := Lib.hid hO
          clear hO hq hxq
          gi_wp2_with fail
          go_ret
          exact HO.out
      · have hkl : k = l'.length := by omega
        have hO : VOut w0 n₁ J Jx pre (p0 ++ refsL l') W (.returned (.bool true)) wr := .inl ⟨rfl, ⟨ys, by rw [HV.out.is, hkl, List.take_length], HV.out.j⟩, HV.out.kp⟩
        have HO := Lib.hid hO
        clear hO hkl
        gi_wp2_with fail
        go_ret
        exact HO.out
set_option maxRecDepth 100000 in
set_option maxHeartbeats 1000000 in
theorem refs_stops (F : Fence) (hd : F.depth = none) (hn1 : F.fn 204) (hv : F.fn 205) (hro : F.round = none) (n Bx : Nat) (w0 w : World) (x : Ex) (d : Nd) (A : Option Addr) (m c : Nat)
    (his : Is w0 x d A m) (hb : Below w0.heap.size w0 w) (hbox : Box w Bx d A m c) :
    SeqStopsK F n Tryz.prog 204 #[.pointer (some ⟨Bx, 0, none⟩)] encs (Kp w0.heap.size w.heap.size) (fun ys => bare ys = Ex.refs x) (fun q => bare q <+: Ex.refs x) (Ex.refs x).length w := by
  intro l J Jx W hW hJ hJx hY h0
  have hdd : ∀ k : Nat, (F.depth.isSome = true → 1 ≤ k) := fun k h => by rw [hd] at h; cases h
  obtain ⟨b0, b1, b2, b3, b4, b5⟩ := (hbox.below hW).cells
  have hp := visit_in F hd hv hro l w.heap.size (Ex.refs x).length w0 J Jx (fun s W o hs => hJ s W _ none hs (World.grownBy_alloc W o none) (fun r e => by cases e)) (fun m pre x W hj hl => anyDepth hd m (hY pre x W hj hl)) x d A m c (n - 1) [] W his (hb.trans (hW.mono hb.size)) hW.size h0 (by simp)
  have HP := Lib.hid hp
  clear hp his hb hbox hW hJ hJx hY h0
  refine callsIn_of_wp Tryz.func204 rfl hn1 ?_ hro
  simp only [Tryz.ntmps204, List.size_toArray, List.length_cons, List.length_nil, Nat.reduceAdd, Nat.reduceSub, Array.replicate_succ, Array.replicate_zero, List.push_toArray, List.append_toArray, List.nil_append, List.cons_append]
  gi_wp2_with fail
  refine HP.out.mono ?_; rintro e w2 (⟨rfl, ⟨zs, hz, hjz⟩, hkz⟩ | ⟨rfl, q, hq, hxq⟩)
  · rw [List.nil_append] at hjz
    have HO := Lib.hid (And.intro hz hjz)
    clear hz hjz hkz
    gi_wp2_with fail
    go_end0
    exact ⟨⟨_, rfl⟩, .inl ⟨zs, HO.out⟩⟩
  · rw [List.nil_append] at hxq
    have HO := Lib.hid (And.intro hq hxq)
    clear hq hxq
    gi_wp2_with fail
    go_end0
    exact ⟨⟨_, rfl⟩, .inr ⟨q, HO.out⟩⟩
theorem refs_in (F : Fence) (n : Nat) (hf : F.fn 179) (hro : F.round = none) (d : Nd) (A : Option Addr) (m c : Nat) (w : World) :
    CallsIn F n Tryz.prog 179 #[.agg #[.int .i64 d.op, .int .i64 d.k, .int .i64 d.n, .string d.s, .string d.nm, .slice A m c]] w fun e w' => e = .returned (.func (.func 204) #[] #[.pointer (some ⟨w.heap.size, 0, none⟩)]) ∧ w' = w.alloc (.cells #[.int .i64 d.op, .int .i64 d.k, .int .i64 d.n, .string d.s, .string d.nm, .slice A m c] 50) := by
  refine callsIn_of_wp Tryz.func179 rfl hf ?_ hro
  simp only [Tryz.ntmps179, List.size_toArray, List.length_cons, List.length_nil, Nat.reduceAdd, Nat.reduceSub, Array.replicate_succ, Array.replicate_zero, List.push_toArray, List.append_toArray, List.nil_append, List.cons_append]
  gi_wp2
  go_ret
  exact ⟨rfl, rfl⟩
end Go.Proofs.YtdefaeieiaegaaaGreatDoor.NmV
namespace Go.Proofs.YtdefaeieiaegaaaGreatDoor.NmH
open Go.RowKit Go.Shelf
open ExM NmM Kit ExL ExV NmV
set_option linter.unusedVariables false
attribute [local go_sem] Oper.semAt_some
end Go.Proofs.YtdefaeieiaegaaaGreatDoor.NmH
