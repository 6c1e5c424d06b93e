/- TxMath TxRead FrmBase Fld Maths NmCopy: what these laws name of them. -/
import Derived.Lib.IndexMore
import Derived.Lib.Split
import Derived.Lib.Strings
import Derived.Lib.ReplaceLaws
import Derived.Lib.CountLaws
import GoSem.Claim
import Derived.Lib.Bytealg
import Derived.Lib.Small
import Derived.Lib.AtoiAll
import Derived.Lib.AtoiTie
import Derived.Lib.ItoaMem
import Derived.Lib.UnsafeStr
import Derived.Lib.ItoaNum
import Derived.LaidLaws
import Derived.ChangeArms
import Derived.Lib.LaidTab
import Derived.ChangeOld
import Derived.WideShapes
import Derived.RangeFuncBox
import Derived.Deep.RegionHeld3
import Derived.Deep.AppendLies
import Derived.Deep.RegionLaw
import Derived.OwnWalk
import Derived.Deep.RegionWith
import Derived.RegionTactic
import Derived.BigRegion
import Derived.Laws.OwnMore
import Derived.Laws.Pointers
import Derived.Test.YtdefaeieiaegaaaGreatDoorChecked
import Derived.WalkKit
import Derived.ProofKit
import Derived.Lib.ConvBytes
import Derived.Lib.AtoiErrMem
import Derived.Laws.IdiomStrings
import Derived.WalkSpells
import Derived.WalkLawsBesides
import Derived.Outline
import Derived.Lib.Hide
import Derived.Deep.LoopGhost
import Derived.Below
import Derived.Deep.Draws
import Derived.Test.YtdefaeieiaegaaaGreatDoorProg
import Derived.IntWalk
import Derived.ChangeAlike
import Derived.BigQuiet
import Derived.Deep.QuietTactic
import Derived.WalkSmall
import Derived.RangeFuncNested
import Derived.RangeFuncBound
import Derived.RangeFuncCalls
import Derived.RangeFuncLeaves
import Derived.Shelf.Abstract
import Derived.Shelf.RegionOpen
import Derived.OwnWalkIn
import Derived.TacticsInMore
import Derived.LoopNIn
import Derived.LoopIn
import Derived.Deep.DrawnRows
import Derived.LaidMore
import Derived.Test.YtdefaeieiaegaaaGreatDoorKtp01
import Derived.Test.YtdefaeieiaegaaaGreatDoorKtp02
import Derived.Test.YtdefaeieiaegaaaGreatDoorKtp03
import Derived.Test.YtdefaeieiaegaaaGreatDoorKtp04
import Derived.Test.YtdefaeieiaegaaaGreatDoorKtp07
namespace Go.Proofs.YtdefaeieiaegaaaGreatDoor.TxM
open ValM LexM ExM ShowM PrM
set_option linter.unusedVariables false
def kdW (k : Int) : List UInt8 := if k = 1 then [105, 110, 112, 117, 116, 32] else if k = 2 then [102, 111, 114, 109, 117, 108, 97, 32] else if k = 3 then [108, 111, 111, 107, 117, 112, 32] else []
def tyW (t : Int) : List UInt8 := if t = 1 then [32, 105, 110, 116] else if t = 2 then [32, 98, 111, 111, 108] else if t = 3 then [32, 116, 101, 120, 116] else []
abbrev eqW : List UInt8 := [32, 61, 32]
abbrev pgW : List UInt8 := [112, 97, 103, 101, 32]
abbrev coW : List UInt8 := [58, 32]
abbrev seW : List UInt8 := [59, 32]
def fieldL (nm : List UInt8) (k t : Int) (src : List UInt8) : List UInt8 := kdW k ++ (nm ++ (tyW t ++ (if 1 < k then eqW ++ src else [])))
def skL : Option (List UInt8) → List UInt8
  | none => []
  | some s => seW ++ s
def pageL (nm : List UInt8) (fs : List (List UInt8)) (skip : Option (List UInt8)) : List UInt8 := pgW ++ (nm ++ (coW ++ (commas fs ++ skL skip)))
def joinN : List (List UInt8) → List UInt8
  | [] => []
  | [a] => a
  | a :: r => a ++ (10 :: joinN r)
/-- Cut at the first place. -/
def cutO (l sep : List UInt8) : Option (List UInt8 × List UInt8) := if Lib.index l sep = -1 then none else some (l.take (Lib.index l sep).toNat, l.drop ((Lib.index l sep).toNat + sep.length))
def kts : List (Int × Int) := [(1, 1), (1, 2), (1, 3), (2, 1), (2, 2), (2, 3), (3, 1), (3, 2), (3, 3)]
def isHd (l : List UInt8) (p : Int × Int) : Bool := Lib.hasPrefix l (kdW p.1) && Lib.hasSuffix l (tyW p.2) && decide ((kdW p.1).length + (tyW p.2).length < l.length)
def midL (l : List UInt8) (p : Int × Int) : List UInt8 := (l.take (l.length - (tyW p.2).length)).drop (kdW p.1).length
def headO (l : List UInt8) : Option (Int × Int) := kts.find? (isHd l)
theorem occ_head {s sub : List UInt8} {i : Nat} {c : UInt8} {t : List UInt8} (hs : sub = c :: t) (h : s[i]? ≠ some c) : Lib.occAt s sub i = false := by
  cases h2 : Lib.occAt s sub i with
  | false => rfl
  | true => exact absurd (Lib.occAt_head hs h2) h
theorem occ_here (a sep r : List UInt8) : Lib.occAt (a ++ (sep ++ r)) sep a.length = true := by
  unfold Lib.occAt
  rw [List.drop_left]
  exact List.isPrefixOf_iff_prefix.2 ⟨r, rfl⟩
/-- No byte of the piece is the separator's first. -/
theorem index_piece {a sep r : List UInt8} {c : UInt8} {t : List UInt8} (hs : sep = c :: t) (ha : c ∉ a) : Lib.index (a ++ (sep ++ r)) sep = (a.length : Int) :=
  Lib.index_first (by simp) (occ_here a sep r) fun j hj => occ_head hs (by
    rw [List.getElem?_append_left hj]
    intro e
    exact ha (List.mem_of_getElem? e))
theorem index_no {a sep : List UInt8} {c : UInt8} {t : List UInt8} (hs : sep = c :: t) (ha : c ∉ a) : Lib.index a sep = -1 :=
  Lib.index_none fun j _ => occ_head hs fun e => ha (List.mem_of_getElem? e)
theorem cut_no {a sep : List UInt8} (h : Lib.index a sep = -1) : cutO a sep = none := by unfold cutO; rw [if_pos h]
def joinS (sep : List UInt8) : List (List UInt8) → List UInt8
  | [] => []
  | [a] => a
  | a :: b :: r => a ++ (sep ++ joinS sep (b :: r))
theorem joinN_eq : ∀ l : List (List UInt8), joinN l = joinS [10] l
  | [] => rfl
  | [a] => rfl
  | a :: b :: r => by show a ++ (10 :: joinN (b :: r)) = a ++ ([10] ++ joinS [10] (b :: r)); rw [joinN_eq (b :: r)]; rfl
theorem join_len (sep : List UInt8) (h : sep ≠ []) : ∀ (a : List UInt8) (r : List (List UInt8)), r.length ≤ (joinS sep (a :: r)).length
  | a, [] => Nat.zero_le _
  | a, b :: r => by
    have := join_len sep h b r
    have hp : 0 < sep.length := List.length_pos_iff.2 h
    show r.length + 1 ≤ (a ++ (sep ++ joinS sep (b :: r))).length
    simp only [List.length_append]; omega
theorem count_join {sep : List UInt8} {c : UInt8} {t : List UInt8} (hs : sep = c :: t) : ∀ (a : List UInt8) (r : List (List UInt8)) (fuel : Nat), (∀ p ∈ a :: r, c ∉ p) → r.length < fuel → Lib.countFrom sep fuel (joinS sep (a :: r)) = r.length
  | a, [], fuel, h, hf => by
    cases fuel with
    | zero => omega
    | succ f =>
      show (if Lib.index a sep == -1 then 0 else _) = 0
      rw [index_no hs (h a (by simp))]; rfl
  | a, b :: r, fuel, h, hf => by
    cases fuel with
    | zero => omega
    | succ f =>
      have hi : Lib.index (a ++ (sep ++ joinS sep (b :: r))) sep = (a.length : Int) := index_piece hs (h a (by simp))
      show (if Lib.index (a ++ (sep ++ joinS sep (b :: r))) sep == -1 then 0 else 1 + Lib.countFrom sep f ((a ++ (sep ++ joinS sep (b :: r))).drop ((Lib.index (a ++ (sep ++ joinS sep (b :: r))) sep).toNat + sep.length))) = r.length + 1
      rw [hi, if_neg (by simp)]
      have e : (a ++ (sep ++ joinS sep (b :: r))).drop (((a.length : Int)).toNat + sep.length) = joinS sep (b :: r) := by simp [List.drop_append]
      rw [e, count_join hs b r f (fun p hp => h p (by simp at hp ⊢; exact .inr hp)) (by simp at hf; omega)]
      omega
theorem splitK_join {sep : List UInt8} {c : UInt8} {t : List UInt8} (hs : sep = c :: t) : ∀ (a : List UInt8) (r : List (List UInt8)), (∀ p ∈ a :: r, c ∉ p) → Lib.splitK sep 0 r.length (joinS sep (a :: r)) = a :: r
  | a, [], h => rfl
  | a, b :: r, h => by
    have hi : Lib.index (a ++ (sep ++ joinS sep (b :: r))) sep = (a.length : Int) := index_piece hs (h a (by simp))
    show (if Lib.index (a ++ (sep ++ joinS sep (b :: r))) sep == -1 then _ else (a ++ (sep ++ joinS sep (b :: r))).take ((Lib.index (a ++ (sep ++ joinS sep (b :: r))) sep).toNat + 0) :: Lib.splitK sep 0 r.length ((a ++ (sep ++ joinS sep (b :: r))).drop ((Lib.index (a ++ (sep ++ joinS sep (b :: r))) sep).toNat + sep.length))) = _
    rw [hi, if_neg (by simp)]
    have e : (a ++ (sep ++ joinS sep (b :: r))).drop (((a.length : Int)).toNat + sep.length) = joinS sep (b :: r) := by simp [List.drop_append]
    rw [e, splitK_join hs b r (fun p hp => h p (by simp at hp ⊢; exact .inr hp))]
    simp
theorem split_join {sep : List UInt8} {c : UInt8} {t : List UInt8} (hs : sep = c :: t) (a : List UInt8) (r : List (List UInt8)) (h : ∀ p ∈ a :: r, c ∉ p) : Lib.split (joinS sep (a :: r)) sep = a :: r := by
  unfold Lib.split Lib.count
  rw [count_join hs a r _ h (by have := join_len sep (by rw [hs]; simp) a r; omega)]
  exact splitK_join hs a r h
theorem nmB_parts {l : List UInt8} (h : nmB l = true) : l ≠ [] ∧ l.length ≤ 10 ∧ ∀ c ∈ l, alnB c = true := by
  unfold nmB at h
  simp only [Bool.and_eq_true, Bool.not_eq_true', decide_eq_true_eq] at h
  obtain ⟨⟨⟨h1, h2⟩, h3⟩, _⟩ := h
  refine ⟨fun e => by subst e; simp at h1, h2, fun c hc => ?_⟩
  cases l with
  | nil => simp at hc
  | cons a r =>
    unfold nameB at h3
    simp only [Bool.and_eq_true] at h3
    rcases List.mem_cons.1 hc with rfl | hc
    · unfold alnB; rw [h3.1]; rfl
    · exact List.all_eq_true.1 h3.2 c hc
theorem aln_not {c : UInt8} (h : alnB c = true) : c ≠ 10 ∧ c ≠ 32 ∧ c ≠ 44 ∧ c ≠ 58 ∧ c ≠ 59 ∧ c ≠ 61 := by
  refine ⟨?_, ?_, ?_, ?_, ?_, ?_⟩ <;> (intro e; subst e; exact absurd h (by decide))
theorem kt_cases {k : Int} (h : 1 ≤ k ∧ k ≤ 3) : k = 1 ∨ k = 2 ∨ k = 3 := by omega
theorem kd_not (k : Int) : ∀ c ∈ kdW k, c ≠ 10 ∧ c ≠ 61 := by
  unfold kdW
  split
  · decide
  · split
    · decide
    · split
      · decide
      · intro c hc; simp at hc
theorem ty_not (t : Int) : ∀ c ∈ tyW t, c ≠ 10 ∧ c ≠ 61 := by
  unfold tyW
  split
  · decide
  · split
    · decide
    · split
      · decide
      · intro c hc; simp at hc
theorem pre_iff {a p : List UInt8} : Lib.hasPrefix a p = true ↔ p <+: a := by unfold Lib.hasPrefix; exact List.isPrefixOf_iff_prefix
theorem suf_iff {a p : List UInt8} : Lib.hasSuffix a p = true ↔ p <:+ a := by unfold Lib.hasSuffix; exact List.isSuffixOf_iff_suffix
/-- The head of a field's line tells its kind and its type. -/
theorem head_of {nm : List UInt8} {k t : Int} (hn : nm ≠ []) (hk : 1 ≤ k ∧ k ≤ 3) (ht : 1 ≤ t ∧ t ≤ 3) : headO (kdW k ++ (nm ++ tyW t)) = some (k, t) ∧ midL (kdW k ++ (nm ++ tyW t)) (k, t) = nm := by
  have hp : 0 < nm.length := List.length_pos_iff.2 hn
  have hyes : isHd (kdW k ++ (nm ++ tyW t)) (k, t) = true := by
    unfold isHd
    simp only [Bool.and_eq_true, decide_eq_true_eq]
    refine ⟨⟨pre_iff.2 ⟨_, rfl⟩, suf_iff.2 ⟨kdW k ++ nm, by rw [List.append_assoc]⟩⟩, ?_⟩
    simp only [List.length_append]; omega
  have hother : ∀ p ∈ kts, isHd (kdW k ++ (nm ++ tyW t)) p = true → p = (k, t) := fun p hp h => by
    unfold isHd at h
    simp only [Bool.and_eq_true, decide_eq_true_eq] at h
    obtain ⟨⟨h1, h2⟩, _⟩ := h
    have h1 := pre_iff.1 h1
    have h2 := suf_iff.1 h2
    have e1 : p.1 = k := by
      have hb : ∀ a b : List UInt8, a <+: kdW k ++ (nm ++ tyW t) → a ≠ [] → a.head? = (kdW k ++ (nm ++ tyW t)).head? := fun a b h hne => by
        obtain ⟨r, hr⟩ := h
        rw [← hr]
        cases a with
        | nil => exact absurd rfl hne
        | cons x a => rfl
      have := hb (kdW p.1) [] h1
      unfold kts at hp
      simp only [List.mem_cons, List.not_mem_nil, or_false] at hp
      rcases hp with rfl | rfl | rfl | rfl | rfl | rfl | rfl | rfl | rfl <;> rcases kt_cases hk with rfl | rfl | rfl <;> first | rfl | (exfalso; revert this; simp [kdW])
    have e2 : p.2 = t := by
      have hs : ∀ a : List UInt8, a <:+ kdW k ++ (nm ++ tyW t) → 2 ≤ a.length → a.drop (a.length - 2) = (kdW k ++ (nm ++ tyW t)).drop ((kdW k ++ (nm ++ tyW t)).length - 2) := fun a h hl2 => by
        obtain ⟨r, hr⟩ := h
        rw [← hr, List.length_append, List.drop_append, show r.length + a.length - 2 - r.length = a.length - 2 by omega, List.drop_eq_nil_of_le (show r.length ≤ r.length + a.length - 2 by omega), List.nil_append]
      have hl2 : (kdW k ++ (nm ++ tyW t)).drop ((kdW k ++ (nm ++ tyW t)).length - 2) = (tyW t).drop ((tyW t).length - 2) :=
        (hs (tyW t) ⟨kdW k ++ nm, by rw [List.append_assoc]⟩ (by rcases kt_cases ht with rfl | rfl | rfl <;> decide)).symm
      unfold kts at hp
      simp only [List.mem_cons, List.not_mem_nil, or_false] at hp
      have h5 := hs (tyW p.2) h2
      rw [hl2] at h5
      rcases hp with rfl | rfl | rfl | rfl | rfl | rfl | rfl | rfl | rfl <;> rcases kt_cases ht with rfl | rfl | rfl <;> first | rfl | (exfalso; revert h5; decide)
    exact Prod.ext e1 e2
  refine ⟨?_, ?_⟩
  · unfold headO
    cases hf : kts.find? (isHd (kdW k ++ (nm ++ tyW t))) with
    | none =>
      rw [List.find?_eq_none] at hf
      refine absurd hyes (hf _ ?_)
      unfold kts
      rcases kt_cases hk with rfl | rfl | rfl <;> rcases kt_cases ht with rfl | rfl | rfl <;> decide
    | some p =>
      rw [hother p (List.mem_of_find?_eq_some hf) (List.find?_some hf)]
  · unfold midL
    have e : (kdW k ++ (nm ++ tyW t)).take ((kdW k ++ (nm ++ tyW t)).length - (tyW t).length) = kdW k ++ nm := by
      rw [← List.append_assoc, List.length_append, Nat.add_sub_cancel, List.take_left]
    rw [e, List.drop_left]
/-- Lines without a line feed. -/
theorem lines_back (a : List UInt8) (r : List (List UInt8)) (h : ∀ p ∈ a :: r, (10 : UInt8) ∉ p) : Lib.split (joinN (a :: r)) [10] = a :: r := by
  rw [joinN_eq]; exact split_join (c := 10) (t := []) rfl a r h
theorem field_feed {nm : List UInt8} {k t : Int} {src : List UInt8} (hn : nmB nm = true) (hs : (10 : UInt8) ∉ src) : (10 : UInt8) ∉ fieldL nm k t src := fun h => by
  unfold fieldL at h
  rcases List.mem_append.1 h with h | h
  · exact (kd_not k _ h).1 rfl
  · rcases List.mem_append.1 h with h | h
    · exact (aln_not ((nmB_parts hn).2.2 _ h)).1 rfl
    · rcases List.mem_append.1 h with h | h
      · exact (ty_not t _ h).1 rfl
      · split at h
        · rcases List.mem_append.1 h with h | h
          · revert h; decide
          · exact hs h
        · simp at h
theorem page_feed {nm : List UInt8} {fs : List (List UInt8)} {skip : Option (List UInt8)} (hn : nmB nm = true) (hf : ∀ s ∈ fs, nmB s = true) (hs : ∀ s, skip = some s → (10 : UInt8) ∉ s) : (10 : UInt8) ∉ pageL nm fs skip := fun h => by
  have hb : ∀ l : List (List UInt8), (∀ s ∈ l, nmB s = true) → (10 : UInt8) ∉ commas l := fun l => by
    induction l with
    | nil => intro _ h; simp [commas] at h
    | cons a r ih =>
      intro hl h
      have ha := (nmB_parts (hl a (by simp))).2.2
      cases r with
      | nil => exact (aln_not (ha _ h)).1 rfl
      | cons b r =>
        rcases List.mem_append.1 (show (10 : UInt8) ∈ a ++ ([44, 32] ++ commas (b :: r)) from h) with h | h
        · exact (aln_not (ha _ h)).1 rfl
        · rcases List.mem_append.1 h with h | h
          · revert h; decide
          · exact ih (fun s hs => hl s (by simp at hs ⊢; exact .inr hs)) h
  unfold pageL at h
  rcases List.mem_append.1 h with h | h
  · revert h; decide
  · rcases List.mem_append.1 h with h | h
    · exact (aln_not ((nmB_parts hn).2.2 _ h)).1 rfl
    · rcases List.mem_append.1 h with h | h
      · revert h; decide
      · rcases List.mem_append.1 h with h | h
        · exact hb fs hf h
        · cases skip with
          | none => exact absurd h (by unfold skL; simp)
          | some s =>
            rcases List.mem_append.1 h with h | h
            · revert h; decide
            · exact hs s rfl h
end Go.Proofs.YtdefaeieiaegaaaGreatDoor.TxM
namespace Go.Proofs.YtdefaeieiaegaaaGreatDoor.TxR
open ValM LexM ExM ShowM PrM TxM
set_option linter.unusedVariables false
structure Fl where
  nm : List UInt8
  k : Int
  t : Int
  x : Ex
structure Pl where
  nm : List UInt8
  fs : List (List UInt8)
  x : Ex
def noX : Ex := .mk ⟨0, 0, 0, ⟨#[]⟩, ⟨#[]⟩⟩ []
/-- Whether a formula is none at all. -/
def flL (f : Fl) : List UInt8 := fieldL f.nm f.k f.t (Ex.txt f.x)
/-- b: has it a Skip? -/
def plL (p : Pl × Bool) : List UInt8 := pageL p.1.nm p.1.fs (if p.2 = true then some (Ex.txt p.1.x) else none)
def linesF (F : List Fl) (P : List (Pl × Bool)) : List (List UInt8) := F.map flL ++ P.map plL
structure FlOk (f : Fl) : Prop where
  nm : nmB f.nm = true
  k : 1 ≤ f.k ∧ f.k ≤ 3
  t : 1 ≤ f.t ∧ f.t ≤ 3
  no : f.k = 1 → f.x = noX
structure PlOk (p : Pl × Bool) : Prop where
  nm : nmB p.1.nm = true
  fs : ∀ s ∈ p.1.fs, nmB s = true
  no : p.2 = false → p.1.x = noX
theorem cl_iff {l : List UInt8} : cleanL l = true ↔ ∀ c ∈ l, 32 ≤ c.toNat ∧ c.toNat ≤ 126 := by
  unfold cleanL
  rw [List.all_eq_true]
  constructor
  · intro h c hc; have := h c hc; simpa using this
  · intro h c hc; simpa using h c hc
theorem cl_app {a b : List UInt8} (ha : cleanL a = true) (hb : cleanL b = true) : cleanL (a ++ b) = true := by
  unfold cleanL at ha hb ⊢
  rw [List.all_append, ha, hb]; rfl
theorem cl_cons {c : UInt8} {b : List UInt8} (h : 32 ≤ c.toNat ∧ c.toNat ≤ 126) (hb : cleanL b = true) : cleanL (c :: b) = true := by
  rw [cl_iff] at hb ⊢
  intro d hd
  rcases List.mem_cons.1 hd with rfl | hd
  · exact h
  · exact hb d hd
theorem cl_sign (op : Int) : cleanL (signF op) = true := by
  unfold signF rwF
  have hall : ∀ r ∈ NotTab.rows, cleanL r.1 = true := by decide
  rcases Nat.lt_or_ge op.toNat NotTab.rows.length with h | h
  · rw [List.getD_eq_getElem?_getD, List.getElem?_eq_getElem h]
    exact hall _ (List.getElem_mem h)
  · rw [List.getD_eq_getElem?_getD, List.getElem?_eq_none h]; rfl
theorem cl_dig {l : List UInt8} (h : l.all digB = true) : cleanL l = true := by
  rw [cl_iff]
  intro c hc
  have := List.all_eq_true.1 h c hc
  unfold digB at this
  simp only [Bool.and_eq_true, decide_eq_true_eq] at this
  omega
theorem cl_itoa (n : Int) : cleanL (Lib.itoa n) = true := by
  unfold Lib.itoa
  split
  · exact cl_cons (by decide) (cl_dig (PbL.dec_all _))
  · exact cl_dig (PbL.dec_all _)
theorem cl_esc : ∀ l : List UInt8, cleanL l = true → cleanL (escL l) = true := fun l h => by
  rw [cl_iff] at h ⊢
  intro c hc
  unfold escL at hc
  obtain ⟨d, hd, h2⟩ := List.mem_flatMap.1 hc
  split at h2
  · simp at h2
    rcases h2 with rfl | rfl
    · decide
    · exact h _ hd
  · simp at h2; subst h2; exact h _ hd
theorem cl_quote {l : List UInt8} (h : cleanL l = true) : cleanL (quoteL l) = true := by
  unfold quoteL
  exact cl_cons (by decide) (cl_app (cl_esc l h) (by decide))
theorem cl_name {l : List UInt8} (h : nmB l = true) : cleanL l = true := by
  rw [cl_iff]
  intro c hc
  have := (nmB_parts h).2.2 c hc
  unfold alnB lowB digB at this
  simp only [Bool.or_eq_true, Bool.and_eq_true, decide_eq_true_eq] at this
  omega
theorem cl_br {p : Int} {t : Int × List UInt8} (h : cleanL t.2 = true) : cleanL (br p t) = true := by
  unfold br
  split
  · exact cl_cons (by decide) (cl_app h (by decide))
  · exact h
theorem cl_commas : ∀ ls : List (List UInt8), (∀ l ∈ ls, cleanL l = true) → cleanL (commas ls) = true
  | [], _ => rfl
  | [a], h => h a (by simp)
  | a :: b :: r, h => by
    show cleanL (a ++ ([44, 32] ++ commas (b :: r))) = true
    exact cl_app (h a (by simp)) (cl_app (by decide) (cl_commas (b :: r) fun l hl => h l (by simp at hl ⊢; exact .inr hl)))
theorem txt_clean : ∀ x : Ex, x.okN → cleanL (Ex.txt x) = true := by
  refine Ex.ind fun d l ih => ?_
  intro hok
  obtain ⟨h0, hl⟩ := (okN_mk d l).1 hok
  obtain ⟨p1, p2, p3, p4, p5⟩ := PbT.node_ok h0
  have harg : ∀ i, cleanL (arg (txtL l) i).2 = true := fun i => by
    by_cases hi : i < l.length
    · rw [txtL_at l i hi]; exact ih _ (List.getElem_mem hi) (hl _ (List.getElem_mem hi))
    · unfold arg
      rw [txtL_map, List.getD_eq_getElem?_getD, List.getElem?_eq_none (by rw [List.length_map]; omega)]; rfl
  rw [txt_mk]
  unfold txtF
  split
  · rename_i o1
    obtain ⟨_, hc⟩ := PbT.con_nd o1 p4 p5
    unfold showL
    rcases hc with ⟨a, _⟩ | ⟨a, _⟩ | ⟨a, _, b, _⟩
    · rw [if_neg (by omega), if_neg (by omega), if_neg (by omega), if_neg (by omega)]; exact cl_itoa _
    · rw [if_pos a]
      cases decide (d.n = 1) <;> decide
    · rw [if_neg (by omega), if_pos a]; exact cl_quote b
  · rename_i o1
    split
    · rename_i o2
      unfold nmOk at p5
      rw [if_pos o2] at p5
      exact cl_name p5
    · split
      · refine cl_app (cl_sign _) (cl_cons (by decide) (cl_app (cl_commas _ fun t ht => ?_) (by decide)))
        rw [txtL_map, List.map_map] at ht
        obtain ⟨x, hx, rfl⟩ := List.mem_map.1 ht
        exact ih x hx (hl x hx)
      · split
        · exact cl_app (cl_sign _) (cl_cons (by decide) (cl_br (harg 0)))
        · split
          · exact cl_app (cl_sign _) (cl_br (harg 0))
          · exact cl_app (cl_br (harg 0)) (cl_cons (by decide) (cl_app (cl_sign _) (cl_cons (by decide) (cl_br (harg 1)))))
theorem txt_feed {x : Ex} (h : x.okN) : (10 : UInt8) ∉ Ex.txt x := fun hm => by
  have := cl_iff.1 (txt_clean x h) 10 hm
  exact absurd this (by decide)
end Go.Proofs.YtdefaeieiaegaaaGreatDoor.TxR
namespace Go.Proofs.YtdefaeieiaegaaaGreatDoor.FrmM
open Go.RowKit
open ValM LexM NumM ExM Kit ExL ExP RawV Within RawL GenL
set_option linter.unusedVariables false
/-- A field by its contents. -/
structure FV where
  nm : ByteArray
  kind : Int
  ty : Int
  x : Ex
/-- A page by its contents. -/
structure PV where
  nm : ByteArray
  fs : List ByteArray
  x : Ex
structure FE where
  nm : ByteArray
  kind : Int
  ty : Int
  x : Ex
  B : Option Addr
  m : Nat
  c : Nat
def FE.fd (e : FE) : GenL.Fd := ⟨e.nm, e.kind, e.ty, e.x.d, e.B, e.m, e.c⟩
def FE.v (e : FE) : FV := ⟨e.nm, e.kind, e.ty, e.x⟩
structure PE where
  nm : ByteArray
  fs : List ByteArray
  F : Option Addr
  fc : Nat
  x : Ex
  B : Option Addr
  m : Nat
  c : Nat
def PE.v (e : PE) : PV := ⟨e.nm, e.fs, e.x⟩
def pgC (e : PE) : List Value := [.string e.nm, .slice e.F e.fs.length e.fc, .int .i64 e.x.d.op, .int .i64 e.x.d.k, .int .i64 e.x.d.n, .string e.x.d.s, .string e.x.d.nm, .slice e.B e.m e.c]
end Go.Proofs.YtdefaeieiaegaaaGreatDoor.FrmM
namespace Go.Proofs.YtdefaeieiaegaaaGreatDoor.FldP
open Go.RowKit
open ValM LexM NumM ExM Kit ExL RawV Within RawL GenL
set_option linter.unusedVariables false
/-- The place of a field, or as many as there are. -/
def atF : List GenL.Fd → ByteArray → Nat
  | [], _ => 0
  | f :: l, s => if f.nm = s then 0 else atF l s + 1
theorem atF_le : ∀ (fs : List GenL.Fd) (s : ByteArray), atF fs s ≤ fs.length
  | [], _ => Nat.le_refl _
  | f :: l, s => by
    unfold atF
    split
    · exact Nat.zero_le _
    · exact Nat.succ_le_succ (atF_le l s)
theorem atF_eq : ∀ (fs : List GenL.Fd) (s : ByteArray) (k : Nat) (hk : k < fs.length), (∀ j (hj : j < fs.length), j < k → fs[j].nm ≠ s) → fs[k].nm = s → atF fs s = k
  | f :: l, s, 0, hk, h, he => by unfold atF; rw [if_pos (show f.nm = s from he)]
  | f :: l, s, k + 1, hk, h, he => by
    unfold atF
    rw [if_neg (show ¬ f.nm = s from h 0 (by simp) (by omega)), atF_eq l s k (by simpa using hk) (fun j hj hjk => h (j + 1) (by simpa using hj) (by omega)) he]
theorem atF_none {fs : List GenL.Fd} {s : ByteArray} (h : ∀ j (hj : j < fs.length), fs[j].nm ≠ s) : atF fs s = fs.length := by
  induction fs with
  | nil => rfl
  | cons f l ih =>
    unfold atF
    rw [if_neg (show ¬ f.nm = s from h 0 (by simp)), ih fun j hj => h (j + 1) (by simpa using hj)]; rfl
theorem atF_at {fs : List GenL.Fd} {s : ByteArray} (h : atF fs s < fs.length) : fs[atF fs s].nm = s ∧ ∀ j (hj : j < fs.length), j < atF fs s → fs[j].nm ≠ s := by
  by_cases hex : ∃ j, ∃ hj : j < fs.length, fs[j].nm = s
  · obtain ⟨k, hk, hmin⟩ : ∃ k, (∃ hk : k < fs.length, fs[k].nm = s) ∧ ∀ j, j < k → ¬ ∃ hj : j < fs.length, fs[j].nm = s := by
      obtain ⟨j, hj⟩ := hex
      exact Nat.strongRecOn (motive := fun j => (∃ hj : j < fs.length, fs[j].nm = s) → ∃ k, (∃ hk : k < fs.length, fs[k].nm = s) ∧ ∀ j, j < k → ¬ ∃ hj : j < fs.length, fs[j].nm = s) j (fun m ih hm => by
        by_cases h : ∃ i, i < m ∧ ∃ hi : i < fs.length, fs[i].nm = s
        · obtain ⟨i, hi, hh⟩ := h
          exact ih i hi hh
        · exact ⟨m, hm, fun j hj hh => h ⟨j, hj, hh⟩⟩) hj
    obtain ⟨hk, he⟩ := hk
    have e := atF_eq fs s k hk (fun j hj hjk hh => hmin j hjk ⟨hj, hh⟩) he
    refine ⟨?_, fun j hj hjk hh => hmin j (by omega) ⟨hj, hh⟩⟩
    simp only [e]; exact he
  · have := atF_none (fs := fs) (s := s) fun j hj hh => hex ⟨j, hj, hh⟩
    omega
theorem atF_take {fs : List GenL.Fd} {s : ByteArray} {k : Nat} (hk : k ≤ fs.length) : atF (fs.take k) s < k ↔ atF fs s < k := by
  have hl : (fs.take k).length = k := by simp; omega
  constructor
  · intro h
    obtain ⟨h1, h2⟩ := atF_at (fs := fs.take k) (s := s) (by omega)
    have e := atF_eq fs s (atF (fs.take k) s) (by omega) (fun j hj hjk => by have := h2 j (by omega) hjk; simpa using this) (by simpa using h1)
    omega
  · intro h
    obtain ⟨h1, h2⟩ := atF_at (fs := fs) (s := s) (by omega)
    have e := atF_eq (fs.take k) s (atF fs s) (by omega) (fun j hj hjk => by have := h2 j (by omega) hjk; simpa using this) (by simpa using h1)
    omega
theorem Flds.take {w : World} {A : Option Addr} {fs : List GenL.Fd} (h : Flds w A fs) (k : Nat) : Flds w A (fs.take k) := fun i hi => by
  obtain ⟨a, e, hf⟩ := h i (by simp at hi; omega)
  exact ⟨a, e, by simpa using hf⟩
theorem eq_t {a b : ByteArray} (h : a = b) : (a.toList == b.toList) = true := by rw [h]; simp
theorem eq_f {a b : ByteArray} (h : ¬ a = b) : (a.toList == b.toList) = false := beq_eq_false_iff_ne.2 fun e => h (by
  rw [ByteArray.toList_eq, ByteArray.toList_eq] at e
  exact ByteArray.ext (Array.ext' e))
set_option maxHeartbeats 1000000 in
theorem find_any (s : ByteArray) (fs : List GenL.Fd) (FA : Option Addr) (fc : Nat) (w : World) (hf : Flds w FA fs) (hm : fs.length ≤ 9223372036854775807) :
    Calls Tryz.prog 134 #[.slice FA fs.length fc, .string s] w fun e w' => e = .returned (.tuple #[.int .i64 (if atF fs s < fs.length then (atF fs s : Int) else 0), .int .i64 (if atF fs s < fs.length then 0 else 5)]) ∧ w = w' := by
  obtain ⟨R, hR⟩ : ∃ R : Int × Int, ((if atF fs s < fs.length then (atF fs s : Int) else 0), (if atF fs s < fs.length then (0 : Int) else 5)) = R := ⟨_, rfl⟩
  have hgood : ∀ k (hk : k < fs.length), (∀ j (hj : j < fs.length), j < k → fs[j].nm ≠ s) → fs[k].nm = s → R = ((k : Int), 0) := fun k hk h he => by
    rw [← hR, atF_eq fs s k hk h he, if_pos hk, if_pos hk]
  have hbad : (∀ j (hj : j < fs.length), fs[j].nm ≠ s) → R = (0, 5) := fun h => by
    rw [← hR, atF_none h, if_neg (Nat.lt_irrefl _), if_neg (Nat.lt_irrefl _)]
  rw [show (if atF fs s < fs.length then (atF fs s : Int) else 0) = R.1 from congrArg Prod.fst hR, show (if atF fs s < fs.length then (0 : Int) else 5) = R.2 from congrArg Prod.snd hR]
  have HG := Lib.hid hgood
  have HB := Lib.hid hbad
  have HF := Lib.hid hf
  clear hgood hbad hR hf
  go_enter Tryz.func134, Tryz.ntmps134
  go_wp2_with fail
  go_loopw [6, 9] (fun _ i wr => ∃ (k : Nat), i = .int .i64 k ∧ k ≤ fs.length ∧ (∀ j (hj : j < fs.length), j < k → fs[j].nm ≠ s) ∧ wr = w) (fun _ i _ => fs.length - (intOf i).toNat)
  case atStart => exact ⟨0, rfl, Nat.zero_le _, fun j hj hjk => absurd hjk (by omega), rfl⟩
  case round =>
    obtain ⟨k, rfl, hk, hall, rfl⟩ := hrel
    by_cases hlt : k < fs.length
    · obtain ⟨a, rfl, h0, h1, h2, h3⟩ := HF.out k hlt
      have hg := HG.out k hlt hall
      have hnext : fs[k].nm ≠ s → ∀ j (hj : j < fs.length), j < k + 1 → fs[j].nm ≠ s := fun e j hj hjk => by
        rcases Nat.lt_or_ge j k with h | h
        · exact hall j hj h
        · obtain rfl : j = k := by omega
          exact e
      obtain ⟨nm, hnm⟩ : ∃ a, fs[k].nm = a := ⟨_, rfl⟩
      rw [hnm] at hg hnext h0
      have HG2 := Lib.hid hg
      have HN := Lib.hid hnext
      clear hg hnext hall hnm h2 h3 h1
      by_cases he : nm = s
      · obtain rfl := HG2.out he
        have t1 : (nm.toList == s.toList) = true := eq_t he
        go_wp2_with fail
        go_ret2
        exact ⟨rfl, rfl⟩
      · have t1 : (nm.toList == s.toList) = false := eq_f he
        go_wp2_with fail
        go_roundw
        case rel => exact ⟨k + 1, by go_num, by omega, HN.out he, by first | rfl | trivial⟩
        case measure => simp [intOf]; omega
    · obtain rfl := HB.out fun j hj => hall j hj (by omega)
      clear hall
      go_wp2_with fail
      go_ret2
      exact ⟨rfl, rfl⟩
set_option maxHeartbeats 1000000 in
theorem refAt_any (s : ByteArray) (fs : List GenL.Fd) (FA : Option Addr) (fc : Nat) (w : World) (hf : Flds w FA fs) (hm : fs.length ≤ 9223372036854775807) :
    Calls Tryz.prog 101 #[.slice FA fs.length fc, .string s] w fun e w' => e = .returned (.int .i64 (atF fs s : Int)) ∧ Below w.heap.size w w' := by
  obtain ⟨R, hR⟩ : ∃ R : Int, (atF fs s : Int) = R := ⟨_, rfl⟩
  have hgood : ∀ k (hk : k < fs.length), (∀ j (hj : j < fs.length), j < k → fs[j].nm ≠ s) → fs[k].nm = s → R = (k : Int) := fun k hk h he => by
    rw [← hR, atF_eq fs s k hk h he]
  have hbad : (∀ j (hj : j < fs.length), fs[j].nm ≠ s) → R = (fs.length : Int) := fun h => by
    rw [← hR, atF_none h]
  rw [hR]
  have HG := Lib.hid hgood
  have HB := Lib.hid hbad
  have HF := Lib.hid hf
  clear hgood hbad hR hf
  go_enter Tryz.func101, Tryz.ntmps101
  go_wp2_with fail
  go_loopw [5, 6, 9] (fun _ _ i wr => ∃ (k : Nat), i = .int .i64 k ∧ k ≤ fs.length ∧ (∀ j (hj : j < fs.length), j < k → fs[j].nm ≠ s) ∧ Below w.heap.size w wr) (fun _ _ i _ => fs.length - (intOf i).toNat)
  case atStart => exact ⟨0, rfl, Nat.zero_le _, fun j hj hjk => absurd hjk (by omega), Below.refl _ _⟩
  case round =>
    obtain ⟨k, rfl, hk, hall, hb⟩ := hrel
    by_cases hlt : k < fs.length
    · obtain ⟨a, rfl, hat⟩ := HF.out k hlt
      obtain ⟨q0, q1, q2, q3, q4, q5, q6, q7, q8⟩ := hat.of_block (hb.block _ hat.lt)
      have hg := HG.out k hlt hall
      have hnext : fs[k].nm ≠ s → ∀ j (hj : j < fs.length), j < k + 1 → fs[j].nm ≠ s := fun e j hj hjk => by
        rcases Nat.lt_or_ge j k with h | h
        · exact hall j hj h
        · obtain rfl : j = k := by omega
          exact e
      obtain ⟨f, hfk⟩ : ∃ f, fs[k] = f := ⟨_, rfl⟩
      rw [hfk] at q0 q1 q2 q3 q4 q5 q6 q7 q8 hg hnext
      have HG2 := Lib.hid hg
      have HN := Lib.hid hnext
      have HBl := Lib.hid hb
      clear hg hnext hall hfk hat hb
      by_cases he : f.nm = s
      · obtain rfl := HG2.out he
        have t1 : (f.nm.toList == s.toList) = true := eq_t he
        clear he
        go_wp2_with fail
        go_ret
        exact ⟨rfl, b_more HBl.out _⟩
      · have t1 : (f.nm.toList == s.toList) = false := eq_f he
        have HN := Lib.hid (HN.out he)
        clear he
        go_wp2_with fail
        go_roundw
        case rel => exact ⟨k + 1, by go_num, by omega, HN.out, b_more HBl.out _⟩
        case measure => simp [intOf]; omega
    · obtain rfl := HB.out fun j hj => hall j hj (by omega)
      have HBl := Lib.hid hb
      clear hall hb
      go_wp2_with fail
      go_ret
      exact ⟨rfl, HBl.out⟩
end Go.Proofs.YtdefaeieiaegaaaGreatDoor.FldP
namespace Go.Proofs.YtdefaeieiaegaaaGreatDoor.TyM
open ExM
/-- The type of the first field with a name. -/
def fieldT : List (ByteArray × Int) → ByteArray → Int × Int
  | [], _ => (0, 5)
  | f :: l, s => if f.1 = s then (f.2, 0) else fieldT l s
/-- What an operator asks of its operands (0: the type of the last one), and its result. -/
def ruleReq (op : Int) : List Int :=
  if op = 3 then [1] else if op = 4 then [2] else if op = 18 then [3] else if op = 17 then [2, 0, 0] else if op = 10 then [3, 3]
  else if op = 15 ∨ op = 16 then [2, 2] else if 11 ≤ op ∧ op ≤ 14 then [0, 0] else [1, 1]
def ruleRes (op : Int) : Int := if op = 17 then 0 else if op = 10 then 3 else if op = 4 ∨ (11 ≤ op ∧ op ≤ 16) then 2 else 1
def settl (k last : Int) : Int := if k = 0 then last else k
def lastT (ts : List Int) : Int := ts.getD (ts.length - 1) 0
def fitsR (req ts : List Int) : Prop := ∀ i, i < req.length → ts.getD i 0 = settl (req.getD i 0) (lastT ts)
instance (req ts : List Int) : Decidable (fitsR req ts) := by unfold fitsR; exact inferInstance
def applyR (req : List Int) (res : Int) (ts : List Int) : Int × Int := if fitsR req ts then (settl res (lastT ts), 0) else (0, 9)
def errL : List (Int × Int) → Int
  | [] => 0
  | p :: r => if p.2 = 0 then errL r else p.2
def tyN (fs : List (ByteArray × Int)) (d : Nd) (ps : List (Int × Int)) : Int × Int :=
  if d.op = 1 then (d.k, 0) else if d.op = 2 then fieldT fs d.nm else if errL ps = 0 then applyR (ruleReq d.op) (ruleRes d.op) (ps.map (·.1)) else (0, errL ps)
mutual
def Ex.ty (fs : List (ByteArray × Int)) : Ex → Int × Int | .mk d l => tyN fs d (tyL fs l)
def tyL (fs : List (ByteArray × Int)) : List Ex → List (Int × Int) | [] => [] | x :: l => Ex.ty fs x :: tyL fs l
end
theorem ty_mk (fs : List (ByteArray × Int)) (d : Nd) (l : List Ex) : Ex.ty fs (.mk d l) = tyN fs d (tyL fs l) := by simp [Ex.ty]
theorem tyL_nil (fs : List (ByteArray × Int)) : tyL fs [] = [] := by simp [tyL]
theorem tyL_cons (fs : List (ByteArray × Int)) (x : Ex) (l : List Ex) : tyL fs (x :: l) = Ex.ty fs x :: tyL fs l := by simp [tyL]
theorem tyL_map (fs : List (ByteArray × Int)) (l : List Ex) : tyL fs l = l.map (Ex.ty fs) := by
  induction l with
  | nil => rw [tyL_nil]; rfl
  | cons x l ih => rw [tyL_cons, ih]; rfl
theorem tyL_len (fs : List (ByteArray × Int)) (l : List Ex) : (tyL fs l).length = l.length := by rw [tyL_map, List.length_map]
theorem errL_append (l m : List (Int × Int)) : errL (l ++ m) = if errL l = 0 then errL m else errL l := by
  induction l with
  | nil => simp [errL]
  | cons p l ih =>
    rw [List.cons_append, errL, errL, ih]
    by_cases h : p.2 = 0
    · rw [if_pos h, if_pos h]
    · rw [if_neg h, if_neg h, if_neg h]
theorem errL_one (p : Int × Int) : errL [p] = p.2 := by
  rw [errL]; split
  · rename_i h; rw [h]; rfl
  · rfl
theorem tyL_at (fs : List (ByteArray × Int)) (l : List Ex) (k : Nat) (h : k < l.length) : tyL fs (l.take (k + 1)) = tyL fs (l.take k) ++ [Ex.ty fs l[k]] := by
  rw [take_at l k h, tyL_map, tyL_map, List.map_append]; rfl
theorem errL_at (fs : List (ByteArray × Int)) (l : List Ex) (k : Nat) (h : k < l.length) (h0 : errL (tyL fs (l.take k)) = 0) : errL (tyL fs (l.take (k + 1))) = (Ex.ty fs l[k]).2 := by
  rw [tyL_at fs l k h, errL_append, if_pos h0, errL_one]
/-- An error on the way is the error of the whole. -/
theorem errL_stop (fs : List (ByteArray × Int)) (l : List Ex) (k : Nat) (h : k < l.length) (h0 : errL (tyL fs (l.take k)) = 0) (h1 : (Ex.ty fs l[k]).2 ≠ 0) : errL (tyL fs l) = (Ex.ty fs l[k]).2 := by
  have e : l = l.take (k + 1) ++ l.drop (k + 1) := (List.take_append_drop _ _).symm
  have e2 : tyL fs l = tyL fs (l.take (k + 1)) ++ tyL fs (l.drop (k + 1)) := by
    rw [tyL_map, tyL_map, tyL_map, ← List.map_append, List.take_append_drop]
  have e3 := errL_at fs l k h h0
  rw [e2, errL_append, if_neg (by rw [e3]; exact h1), e3]
/-- P6.1 whole. -/
def ofT (fs : List (ByteArray × Int)) (x : Ex) : Int × Int := if x.checkE = 0 then Ex.ty fs x else (0, x.checkE)
/-- P6.2. -/
def fitsT (fs : List (ByteArray × Int)) (x : Ex) (want : Int) : Int := if (ofT fs x).2 = 0 then (if (ofT fs x).1 = want then 0 else 9) else (ofT fs x).2
theorem fieldT_skip (fs : List (ByteArray × Int)) (s : ByteArray) (k : Nat) (h : ∀ j (hj : j < fs.length), j < k → fs[j].1 ≠ s) : fieldT fs s = fieldT (fs.drop k) s := by
  induction k generalizing fs with
  | zero => rw [List.drop_zero]
  | succ k ih =>
    match fs, h with
    | [], _ => rfl
    | f :: l, h =>
      rw [fieldT, if_neg (show ¬ f.1 = s from h 0 (by simp) (by omega)), List.drop_succ_cons]
      exact ih l fun j hj hjk => h (j + 1) (by simpa using hj) (by omega)
theorem fieldT_hit (fs : List (ByteArray × Int)) (s : ByteArray) (k : Nat) (hk : k < fs.length) (h : ∀ j (hj : j < fs.length), j < k → fs[j].1 ≠ s) (he : fs[k].1 = s) : fieldT fs s = (fs[k].2, 0) := by
  rw [fieldT_skip fs s k h, List.drop_eq_getElem_cons hk, fieldT, if_pos he]
theorem fieldT_none (fs : List (ByteArray × Int)) (s : ByteArray) (h : ∀ j (hj : j < fs.length), fs[j].1 ≠ s) : fieldT fs s = (0, 5) := by
  rw [fieldT_skip fs s fs.length (fun j hj _ => h j hj), List.drop_length]; rfl
theorem ruleReq_len {op : Int} (h1 : 3 ≤ op) (h2 : op ≤ 18) : (ruleReq op).length = arity op := by
  have : op = 3 ∨ op = 4 ∨ op = 5 ∨ op = 6 ∨ op = 7 ∨ op = 8 ∨ op = 9 ∨ op = 10 ∨ op = 11 ∨ op = 12 ∨ op = 13 ∨ op = 14 ∨ op = 15 ∨ op = 16 ∨ op = 17 ∨ op = 18 := by omega
  rcases this with h | h | h | h | h | h | h | h | h | h | h | h | h | h | h | h <;> subst h <;> rfl
theorem arity_pos {op : Int} (h1 : 3 ≤ op) : 1 ≤ arity op := by
  unfold arity
  rw [if_neg (by omega)]
  repeat' split
  all_goals omega
/-- An operator of a formula that is right. -/
theorem okN_op {d : Nd} {l : List Ex} (h : (Ex.mk d l).okN) : 1 ≤ d.op ∧ d.op ≤ 18 ∧ l.length = arity d.op := by
  have := ((okN_mk d l).1 h).1
  unfold nodeE at this
  by_cases h1 : d.op < 1 ∨ 18 < d.op
  · rw [if_pos h1] at this; exact absurd this (by decide)
  · rw [if_neg h1] at this
    by_cases h2 : l.length = arity d.op ∧ vOk d = true ∧ nmOk d = true
    · exact ⟨by omega, by omega, h2.1⟩
    · rw [if_neg h2] at this; exact absurd this (by decide)
end Go.Proofs.YtdefaeieiaegaaaGreatDoor.TyM
namespace Go.Proofs.YtdefaeieiaegaaaGreatDoor.NmM
open ExM
def refsN (l : List (Nd × Nat)) : List ByteArray := (l.filter fun y => decide (y.1.op = 2)).map fun y => y.1.nm
def Ex.refs (x : Ex) : List ByteArray := refsN x.pre
def refsL (l : List Ex) : List ByteArray := refsN (preL l)
theorem refsN_append (l m : List (Nd × Nat)) : refsN (l ++ m) = refsN l ++ refsN m := by unfold refsN; rw [List.filter_append, List.map_append]
theorem refsL_nil : refsL [] = [] := by unfold refsL; rw [preL_nil]; rfl
theorem refsL_cons (x : Ex) (l : List Ex) : refsL (x :: l) = Ex.refs x ++ refsL l := by unfold refsL Ex.refs; rw [preL_cons, refsN_append]
theorem refsL_append (l m : List Ex) : refsL (l ++ m) = refsL l ++ refsL m := by unfold refsL; rw [preL_append, refsN_append]
theorem refsL_at (l : List Ex) (i : Nat) (h : i < l.length) : refsL (l.take (i + 1)) = refsL (l.take i) ++ Ex.refs l[i] := by unfold refsL Ex.refs; rw [preL_at l i h, refsN_append]
theorem refs_mk_pos (d : Nd) (l : List Ex) (h : d.op = 2) : Ex.refs (.mk d l) = d.nm :: refsL l := by
  unfold Ex.refs refsL; rw [pre_mk]
  show refsN ((d, l.length) :: preL l) = _
  unfold refsN; rw [List.filter_cons_of_pos (by simp [h])]; rfl
theorem refs_mk_neg (d : Nd) (l : List Ex) (h : d.op ≠ 2) : Ex.refs (.mk d l) = refsL l := by
  unfold Ex.refs refsL; rw [pre_mk]
  show refsN ((d, l.length) :: preL l) = _
  unfold refsN; rw [List.filter_cons_of_neg (by simp [h])]
theorem refs_mk (d : Nd) (l : List Ex) : Ex.refs (.mk d l) = (if d.op = 2 then [d.nm] else []) ++ refsL l := by
  by_cases h : d.op = 2
  · rw [refs_mk_pos d l h, if_pos h]; rfl
  · rw [refs_mk_neg d l h, if_neg h]; rfl
theorem refsN_len (l : List (Nd × Nat)) : (refsN l).length ≤ l.length := by
  unfold refsN; rw [List.length_map]; exact List.length_filter_le _ _
theorem refs_len (x : Ex) : (Ex.refs x).length ≤ x.nodes := by
  have := refsN_len x.pre; rw [pre_len] at this; exact this
theorem refsL_take (l : List Ex) (i : Nat) : (refsL (l.take i)).length ≤ (refsL l).length := by
  have h := refsL_append (l.take i) (l.drop i)
  rw [List.take_append_drop] at h
  rw [h, List.length_append]; omega
theorem refs_prefix (l : List Ex) (k : Nat) (hk : k < l.length) {q : List ByteArray} (h : q <+: Ex.refs l[k]) : refsL (l.take k) ++ q <+: refsL l := by
  have e : refsL l = refsL (l.take (k + 1)) ++ refsL (l.drop (k + 1)) := by rw [← refsL_append, List.take_append_drop]
  rw [e, refsL_at l k hk]
  obtain ⟨r, hr⟩ := h
  exact ⟨r ++ refsL (l.drop (k + 1)), by rw [← hr]; simp [List.append_assoc]⟩
/-- Does a formula ask for a field? -/
def hasB (l : List ByteArray) (s : ByteArray) : Bool := l.any fun t => decide (t = s)
theorem hasB_nil (s : ByteArray) : hasB [] s = false := rfl
theorem hasB_append (l m : List ByteArray) (s : ByteArray) : hasB (l ++ m) s = (hasB l s || hasB m s) := by unfold hasB; rw [List.any_append]
theorem hasB_cons (t : ByteArray) (l : List ByteArray) (s : ByteArray) : hasB (t :: l) s = (decide (t = s) || hasB l s) := by unfold hasB; rw [List.any_cons]
theorem hasB_true (l : List ByteArray) (s : ByteArray) : hasB l s = true ↔ s ∈ l := by
  unfold hasB; rw [List.any_eq_true]
  constructor
  · rintro ⟨t, ht, e⟩; rw [decide_eq_true_eq] at e; subst e; exact ht
  · intro h; exact ⟨s, h, by simp⟩
theorem hasB_prefix {q l : List ByteArray} {s : ByteArray} (h : q <+: l) (hq : hasB q s = true) : hasB l s = true := by
  obtain ⟨r, rfl⟩ := h
  rw [hasB_append, hq]; rfl
abbrev Bs := List UInt8
/-- Where a text belongs: behind all that are not greater. -/
def place (s : Bs) : List Bs → List Bs
  | [] => [s]
  | t :: r => if s < t then s :: t :: r else t :: place s r
def ins (l : List Bs) (s : Bs) : List Bs := if s ∈ l then l else place s l
def rise (l : List Bs) : List Bs := l.foldl ins []
theorem rise_snoc (l : List Bs) (s : Bs) : rise (l ++ [s]) = ins (rise l) s := by unfold rise; rw [List.foldl_append]; rfl
theorem mem_place (s : Bs) (l : List Bs) (x : Bs) : x ∈ place s l ↔ x = s ∨ x ∈ l := by
  induction l with
  | nil => simp [place]
  | cons t r ih =>
    unfold place
    by_cases h : s < t
    · rw [if_pos h]; simp
    · rw [if_neg h, List.mem_cons, ih, List.mem_cons]
      constructor
      · rintro (h | h | h) <;> simp [h]
      · rintro (h | h | h) <;> simp [h]
theorem mem_ins (l : List Bs) (s x : Bs) : x ∈ ins l s ↔ x = s ∨ x ∈ l := by
  unfold ins
  by_cases h : s ∈ l
  · rw [if_pos h]
    constructor
    · exact .inr
    · rintro (rfl | h2)
      · exact h
      · exact h2
  · rw [if_neg h, mem_place]
theorem lt_or {a b : Bs} (h : ¬ a < b) (hne : a ≠ b) : b < a := by
  have h1 : b ≤ a := List.not_lt.1 h
  by_cases g : b < a
  · exact g
  · exact absurd (List.le_antisymm (List.not_lt.1 g) h1) hne
theorem sorted_place (s : Bs) (l : List Bs) (hs : s ∉ l) (h : l.Pairwise (· < ·)) : (place s l).Pairwise (· < ·) := by
  induction l with
  | nil => simp [place]
  | cons t r ih =>
    obtain ⟨h1, h2⟩ := List.pairwise_cons.1 h
    have hne : s ≠ t := fun e => hs (by simp [e])
    unfold place
    by_cases hlt : s < t
    · rw [if_pos hlt]
      refine List.pairwise_cons.2 ⟨fun x hx => ?_, h⟩
      rcases List.mem_cons.1 hx with e | hx
      · rw [e]; exact hlt
      · exact List.lt_trans hlt (h1 x hx)
    · rw [if_neg hlt]
      refine List.pairwise_cons.2 ⟨fun x hx => ?_, ih (fun hx => hs (by simp [hx])) h2⟩
      rcases (mem_place s r x).1 hx with e | hx
      · rw [e]; exact lt_or hlt hne
      · exact h1 x hx
theorem sorted_ins (l : List Bs) (s : Bs) (h : l.Pairwise (· < ·)) : (ins l s).Pairwise (· < ·) := by
  unfold ins
  by_cases hs : s ∈ l
  · rw [if_pos hs]; exact h
  · rw [if_neg hs]; exact sorted_place s l hs h
theorem place_len (s : Bs) (l : List Bs) : (place s l).length = l.length + 1 := by
  induction l with
  | nil => rfl
  | cons t r ih =>
    unfold place
    by_cases h : s < t
    · rw [if_pos h]; simp
    · rw [if_neg h, List.length_cons, ih, List.length_cons]
theorem ins_len (l : List Bs) (s : Bs) : (ins l s).length ≤ l.length + 1 := by
  unfold ins
  by_cases hs : s ∈ l
  · rw [if_pos hs]; omega
  · rw [if_neg hs, place_len]; omega
theorem rise_all (l : List Bs) : (rise l).Pairwise (· < ·) ∧ (∀ x, x ∈ rise l ↔ x ∈ l) ∧ (rise l).length ≤ l.length := by
  suffices h : ∀ (l acc : List Bs), acc.Pairwise (· < ·) → (l.foldl ins acc).Pairwise (· < ·) ∧ (∀ x, x ∈ l.foldl ins acc ↔ x ∈ acc ∨ x ∈ l) ∧ (l.foldl ins acc).length ≤ acc.length + l.length by
    obtain ⟨h1, h2, h3⟩ := h l [] List.Pairwise.nil
    exact ⟨h1, fun x => by rw [rise, h2]; simp, by rw [rise]; simpa using h3⟩
  intro l
  induction l with
  | nil => intro acc h; simp [h]
  | cons s r ih =>
    intro acc h
    obtain ⟨h1, h2, h3⟩ := ih (ins acc s) (sorted_ins acc s h)
    refine ⟨h1, fun x => ?_, ?_⟩
    · rw [List.foldl_cons, h2, mem_ins]
      simp only [List.mem_cons]
      constructor
      · rintro ((h | h) | h) <;> simp [h]
      · rintro (h | h | h) <;> simp [h]
    · rw [List.foldl_cons, List.length_cons]; have := ins_len acc s; omega
theorem rise_sorted (l : List Bs) : (rise l).Pairwise (· < ·) := (rise_all l).1
theorem rise_mem (l : List Bs) (x : Bs) : x ∈ rise l ↔ x ∈ l := (rise_all l).2.1 x
theorem rise_len (l : List Bs) : (rise l).length ≤ l.length := (rise_all l).2.2
theorem rise_nodup (l : List Bs) : (rise l).Nodup := (rise_sorted l).imp fun h e => by subst e; exact List.lt_irrefl _ h
/-- A list that holds the same texts, each once, sorted, is it. -/
theorem rise_unique (l ss : List Bs) (hp : ss.Nodup) (hm : ∀ x, x ∈ ss ↔ x ∈ l) : ss.mergeSort (fun x y => decide (x ≤ y)) = rise l := by
  have h1 : ss.Perm (rise l) := (List.perm_ext_iff_of_nodup hp (rise_nodup l)).2 fun x => by rw [hm, rise_mem]
  have tr : ∀ a b c : Bs, (fun x y : Bs => decide (x ≤ y)) a b = true → (fun x y : Bs => decide (x ≤ y)) b c = true → (fun x y : Bs => decide (x ≤ y)) a c = true := fun a b c h1 h2 => by simp only [decide_eq_true_eq] at *; exact List.le_trans h1 h2
  have tot : ∀ a b : Bs, ((fun x y : Bs => decide (x ≤ y)) a b || (fun x y : Bs => decide (x ≤ y)) b a) = true := fun a b => by simp only [Bool.or_eq_true, decide_eq_true_eq]; exact List.le_total a b
  refine List.Perm.eq_of_pairwise (le := fun a b => a ≤ b) (fun a b _ _ h1 h2 => List.le_antisymm h1 h2) ((List.pairwise_mergeSort tr tot ss).imp fun h => by simpa using h) ((rise_sorted l).imp fun h => List.le_of_lt h) ((List.mergeSort_perm ss _).trans h1)
mutual
def Ex.put (n : ByteArray) (y : Ex) : Ex → Ex | .mk d l => if d.op = 2 ∧ d.nm = n then y else .mk d (putL n y l)
def putL (n : ByteArray) (y : Ex) : List Ex → List Ex | [] => [] | x :: l => Ex.put n y x :: putL n y l
end
end Go.Proofs.YtdefaeieiaegaaaGreatDoor.NmM
namespace Go.Proofs.YtdefaeieiaegaaaGreatDoor.EvM
open Go.Lib
open NumM ValM ExM NmM TyM StrM
abbrev e0 : ByteArray := ⟨#[]⟩
/-- A value. -/
structure Vl where
  k : Int
  n : Int
  s : ByteArray
/-- It is one that may be. -/
def Vl.ok (v : Vl) : Prop := valE v.k v.n v.s.data.toList = 0
def flt (e : Int) : Vl := ⟨5, e, e0⟩
def bitI (b : Bool) : Int := if b then 1 else 0
def tru (b : Bool) : Vl := ⟨2, bitI b, e0⟩
def zeroV : Vl := ⟨0, 0, e0⟩
/-- The value of the first fact with a name. -/
def factV : List (ByteArray × Vl) → ByteArray → Vl
  | [], _ => flt 5
  | f :: l, s => if f.1 = s then f.2 else factV l s
def condV (v : Vl) : Vl := if v.k = 1 ∨ v.k = 3 then flt 9 else v
/-- Number and error of an arithmetic operator. -/
def arN (op a b : Int) : Int × Int :=
  if op = 8 then (binV a b (a + b), binE a b (a + b)) else if op = 5 then (binV a b (a * b), binE a b (a * b)) else if op = 6 then (quoV a b (a.fdiv b), quoE a b (a.fdiv b))
  else if op = 7 then (quoV a b (a.fmod b), quoE a b (a.fmod b)) else (binV a b (a - b), binE a b (a - b))
def arR (op : Int) (a b : Vl) : Vl × Int := if a.k = 1 ∧ b.k = 1 then (if (arN op a.n b.n).2 = 0 then (⟨1, (arN op a.n b.n).1, e0⟩, 0) else (zeroV, (arN op a.n b.n).2)) else (zeroV, 9)
def notR (v : Vl) : Vl × Int := if v.k = 2 then (tru (decide (v.n = 0) && decide (v.s = e0)), 0) else (zeroV, 9)
def joinR (a b : Vl) : Vl × Int := if a.k = 3 ∧ b.k = 3 then (if 40 < a.s.size + b.s.size then (zeroV, 1) else (⟨3, 0, a.s ++ b.s⟩, 0)) else (zeroV, 9)
def lenR (v : Vl) : Vl × Int := if v.k = 3 then (⟨1, (v.s.size : Int), e0⟩, 0) else (zeroV, 9)
def ordVl (a b : Vl) : Int := if a.k = 3 then compareBytes a.s.data.toList b.s.data.toList else compareInt a.n b.n
def cmpB (op o : Int) : Bool := if op = 11 then decide (o < 0) else if op = 12 then decide (o ≤ 0) else if op = 13 then (o == 0) else (o != 0)
def cmpR (op : Int) (a b : Vl) : Vl × Int := if a.k = b.k then (tru (cmpB op (ordVl a b)), 0) else (zeroV, 9)
def compR (op : Int) (a b : Vl) : Vl × Int :=
  if op = 3 then arR 9 ⟨1, 0, e0⟩ b else if op = 4 then notR b else if op = 10 then joinR a b else if op = 18 then lenR b else if 5 ≤ op ∧ op ≤ 9 then arR op a b else cmpR op a b
def resV (r : Vl × Int) : Vl := if r.2 = 0 then r.1 else flt r.2
/-- The first value of a kind. -/
def firstK (k : Int) : List Vl → Option Vl
  | [] => none
  | v :: l => if v.k = k then some v else firstK k l
def opV (op : Int) (vs : List Vl) : Vl :=
  match firstK 5 vs with
  | some v => v
  | none => match firstK 4 vs with
    | some v => v
    | none => resV (compR op (vs.getD 0 zeroV) (vs.getD (vs.length - 1) zeroV))
def choV (vs : List Vl) : Vl := if (condV (vs.getD 0 zeroV)).k = 2 then (if (vs.getD 0 zeroV).n = 1 then vs.getD 1 zeroV else vs.getD 2 zeroV) else condV (vs.getD 0 zeroV)
def conV (b : Bool) (vs : List Vl) : Vl := if (vs.getD 0 zeroV).k = 2 ∧ (vs.getD 0 zeroV).n = bitI b then condV (vs.getD 1 zeroV) else condV (vs.getD 0 zeroV)
def evN (fs : List (ByteArray × Vl)) (d : Nd) (vs : List Vl) : Vl :=
  if d.op = 1 then ⟨d.k, d.n, d.s⟩ else if d.op = 2 then factV fs d.nm else if d.op = 17 then choV vs else if d.op = 15 then conV true vs else if d.op = 16 then conV false vs else opV d.op vs
mutual
def Ex.ev (fs : List (ByteArray × Vl)) : Ex → Vl | .mk d l => evN fs d (evL fs l)
def evL (fs : List (ByteArray × Vl)) : List Ex → List Vl | [] => [] | x :: l => Ex.ev fs x :: evL fs l
end
/-- A result: a value of a type, or one of four errors. -/
def Res (t : Int) (r : Vl × Int) : Prop := (r.2 = 0 ∧ r.1.ok ∧ r.1.k = t) ∨ r.2 = 1 ∨ r.2 = 7 ∨ r.2 = 8 ∨ r.2 = 9
end Go.Proofs.YtdefaeieiaegaaaGreatDoor.EvM
namespace Go.Proofs.YtdefaeieiaegaaaGreatDoor.EvP
open Go.Lib
open NumM ValM ExM NmM TyM StrM EvM
theorem len3 {α : Type} {l : List α} (h : l.length = 3) : ∃ a b c, l = [a, b, c] := by
  match l, h with
  | [a, b, c], _ => exact ⟨a, b, c, rfl⟩
theorem ty_types {d : Nd} {l : List Ex} {fs : List (ByteArray × Int)} {t : Int} (h : Ex.ty fs (.mk d l) = (t, 0)) (h1 : d.op ≠ 1) (h2 : d.op ≠ 2) : (∀ x ∈ l, (Ex.ty fs x).2 = 0) ∧ applyR (ruleReq d.op) (ruleRes d.op) ((tyL fs l).map (·.1)) = (t, 0) := by
  rw [ty_mk] at h
  unfold tyN at h
  rw [if_neg h1, if_neg h2] at h
  by_cases he : errL (tyL fs l) = 0
  · rw [if_pos he] at h
    refine ⟨?_, h⟩
    clear h
    induction l with
    | nil => intro x hx; exact absurd hx (by simp)
    | cons x l ih =>
      rw [tyL_cons, errL] at he
      by_cases g : (Ex.ty fs x).2 = 0
      · rw [if_pos g] at he
        intro y hy
        rcases List.mem_cons.1 hy with rfl | hy
        · exact g
        · exact ih he y hy
      · rw [if_neg g] at he; exact absurd he g
  · rw [if_neg he] at h; injection h with _ h; exact absurd h he
end Go.Proofs.YtdefaeieiaegaaaGreatDoor.EvP
namespace Go.Proofs.YtdefaeieiaegaaaGreatDoor.FoM
open Go.Lib
open NumM ValM ExM NmM TyM StrM EvM EvP
end Go.Proofs.YtdefaeieiaegaaaGreatDoor.FoM
namespace Go.Proofs.YtdefaeieiaegaaaGreatDoor.NmC
open Go.RowKit
open ExM NmM Kit ExL ExP ExV
set_option linter.unusedVariables false
theorem set_app {α : Type} (xs r : List α) (j i : Nat) (h : i = xs.length + j) (v : α) : (xs ++ r).set i v = xs ++ r.set j v := by
  subst h; rw [List.set_append_right _ _ (by omega)]; congr 2; omega
end Go.Proofs.YtdefaeieiaegaaaGreatDoor.NmC
