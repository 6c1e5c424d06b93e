/- TxPrint IMap TxText: what these laws name of them. -/
import Derived.Deep.RegionHeld3
import Derived.Deep.DeepCutAuto
import Derived.IntWalk
import Derived.RangeFuncNested
import Derived.RangeFuncBound
import Derived.RangeFuncCalls
import Derived.RangeFuncLeaves
import Derived.Shelf.Abstract
import Derived.Shelf.RegionOpen
import Derived.WalkKit
import Derived.OwnWalkIn
import Derived.TacticsInMore
import Derived.LoopNIn
import Derived.LoopIn
import Derived.Deep.QuietTactic
import Derived.Deep.RegionWith
import Derived.ChangeOld
import Derived.Deep.DrawnRows
import Derived.LaidMore
import Derived.BigQuiet
import Derived.RangeFuncBox
import Derived.Test.YtdefaeieiaegaaaGreatDoorProg
import Derived.ProofKit
import Derived.Lib.Hide
import Derived.Outline
import Derived.Below
import Derived.WalkSpells
import Derived.WalkLawsBesides
import Derived.Laws.OwnMore
import Derived.OwnWalk
import Derived.ChangeAlike
import GoSem.Claim
import Derived.Lib.Bytealg
import Derived.Lib.Small
import Derived.Lib.AtoiAll
import Derived.Deep.Draws
import Derived.LaidLaws
import Derived.ChangeArms
import Derived.Lib.LaidTab
import Derived.WideShapes
import Derived.Test.YtdefaeieiaegaaaGreatDoorChecked
import Derived.WalkSmall
import Derived.Deep.AppendLies
import Derived.Deep.RegionLaw
import Derived.RegionTactic
import Derived.BigRegion
import Derived.Laws.Pointers
import Derived.Lib.ConvBytes
import Derived.Lib.AtoiErrMem
import Derived.Laws.IdiomStrings
import Derived.Deep.LoopGhost
import Derived.Lib.UnsafeStr
import Derived.Lib.ItoaNum
import Derived.Lib.AtoiTie
import Derived.Lib.ItoaMem
import Derived.Lib.AppendIntMem
import Derived.Lib.ItoaLen
import Derived.Shelf.Strings.Builder1
import Derived.Shelf.Strings.Builder2
import Derived.Shelf.Strings.OnBuilder
import Derived.Shelf.Small.Bits
import Derived.Shelf.Small.Wraps
import Derived.Shelf.Strings.BuilderF
import Derived.Shelf.Strings.BuilderK
import Derived.Shelf.Strconv.Atoi
import Derived.Shelf.Strconv.Itoa0
import Derived.Shelf.Strconv.Itoa1
import Derived.Shelf.LaysM
import Derived.Shelf.Strconv.Itoa2
import Derived.Shelf.Strconv.Itoa3
import Derived.Shelf.Strconv.AtoiErrFast
import Derived.Shelf.Strconv.ParseIntEmpty
import Derived.Shelf.Strconv.AtoiFail
import Derived.Shelf.Strconv.Clone
import Derived.Shelf.Strconv.SyntaxError
import Derived.Shelf.LaysC
import Derived.Shelf.Strconv.ToError
import Derived.Shelf.Strconv.Lower
import Derived.Shelf.Strconv.ParseUint10
import Derived.Shelf.Strconv.ParseUint10Empty
import Derived.Shelf.Strconv.ParseUint10Any
import Derived.Shelf.Strconv.ParseInt10
import Derived.Shelf.Strconv.AtoiLong
import Derived.Shelf.Strconv.AtoiInnerAll
import Derived.Shelf.Strconv.RangeError
import Derived.Shelf.Strconv.ToErrorRange
import Derived.Shelf.Strconv.AtoiAll
import Derived.Shelf.Strconv.ErrVarAll
import Derived.Shelf.Strings.Search1
import Derived.Shelf.Strings.Search2
import Derived.Shelf.Strings.Search3
import Derived.Shelf.Strings.Cut
import Derived.Shelf.Strings.Count
import Derived.Shelf.Strings.Shaped
import Derived.Shelf.Strings.Prefix
import Derived.Shelf.Strings.Split
import Derived.Shelf.Bits.Mul64
import Derived.Shelf.Unicode.DecodeSlow
import Derived.Shelf.Slices.Turned
import Derived.Shelf.Slices.Equal
import Derived.Ground.Names2Prog
import Derived.Shelf.Slices.Clone
import Derived.Shelf.Slices.Empties2
import Derived.Ground.SlgfProg
import Derived.Shelf.SlicesE.IndexFunc
import Derived.Ground.SlgmProg
import Derived.Shelf.SortM.Plain
import Derived.Shelf.SortM.SortNone
import Derived.Deep.CutBlock
import Derived.Lib.IndexMore
import Derived.Lib.Split
import Derived.Lib.Strings
import Derived.Lib.ReplaceLaws
import Derived.Lib.CountLaws
import Derived.Maps.Own
import Derived.Maps.OwnSet
import Derived.Maps.AppendAt
import Derived.Maps.Range
import Derived.Maps.RangeWalk
import Derived.Laws.AppendOwnNone
import Derived.Sort.EncStr
import Derived.StringKeys
import Derived.Lib.SplitLaws
import Derived.Laws.CopyOwn
import Derived.RangeFuncRecord
import Derived.Calls
import Derived.Orders
import Derived.OrdersHeld
import Derived.RangeFuncWrites
import Derived.Maps.OwnIn
import Derived.Shelf.SlIter.Nil
import Derived.Ground.GgzProg
import Derived.Maps.Keyed
import Derived.Test.YtdefaeieiaegaaaGreatDoorKtp07
import Derived.Test.YtdefaeieiaegaaaGreatDoorKtp11
import Derived.Test.YtdefaeieiaegaaaGreatDoorKtp12
import Derived.Test.YtdefaeieiaegaaaGreatDoorKtp13
import Derived.Test.YtdefaeieiaegaaaGreatDoorKtp15
namespace Go.Proofs.YtdefaeieiaegaaaGreatDoor.TxQ
open Go.RowKit
open ValM LexM NumM ExM NmM ShowM PrM Kit ExL ExP ExN RawV Within RawL GenL FldP FldR FldC FrmM PgM PgA ShT TxM TxR TxP TxT Prn
set_option linter.unusedVariables false
/-- What the tables give. -/
structure TVars (w : World) : Prop where
  pr : Prn.Vars w
  kd : StrTab.Is Tryz.prog w "lychway/text.kinds" kdN
  ty : StrTab.Is Tryz.prog w "lychway/text.types" tyN
theorem TVars.below {w w' : World} (h : TVars w) (hb : Below w.heap.size w w') : TVars w' := ⟨h.pr.below hb, LexT.var_below h.kd hb, LexT.var_below h.ty hb⟩
theorem kd_cell {w : World} (h : TVars w) (i : Nat) (hi : i < 4) : w.cell? ⟨0, i, none⟩ = some (.string ⟨(kdN.getD i []).toArray⟩) := StrTab.Is.cell h.kd (g := 0) (by kernel_rfl) i hi
theorem ty_cell {w : World} (h : TVars w) (i : Nat) (hi : i < 4) : w.cell? ⟨1, i, none⟩ = some (.string ⟨(tyN.getD i []).toArray⟩) := StrTab.Is.cell h.ty (g := 1) (by kernel_rfl) i hi
/-- A field's box, all its cells. -/
theorem fd_nine (w : World) (f : GenL.Fd) (V : World) (hV : Below (w.alloc (fdBox f)).heap.size (w.alloc (fdBox f)) V) : V.cell? ⟨w.heap.size, 0, none⟩ = some (.string f.nm) ∧ V.cell? ⟨w.heap.size, 1, none⟩ = some (.int .i64 f.kind) ∧ V.cell? ⟨w.heap.size, 2, none⟩ = some (.int .i64 f.ty) ∧
    V.cell? ⟨w.heap.size, 3, none⟩ = some (.int .i64 f.d.op) ∧ V.cell? ⟨w.heap.size, 4, none⟩ = some (.int .i64 f.d.k) ∧ V.cell? ⟨w.heap.size, 5, none⟩ = some (.int .i64 f.d.n) ∧ V.cell? ⟨w.heap.size, 6, none⟩ = some (.string f.d.s) ∧ V.cell? ⟨w.heap.size, 7, none⟩ = some (.string f.d.nm) ∧ V.cell? ⟨w.heap.size, 8, none⟩ = some (.slice f.A f.n f.c) := by
  have e1 : V.heap[w.heap.size]? = _ := (hV.block _ (by simp)).trans (World.alloc_heap_new w (fdBox f))
  unfold fdBox at e1
  refine ⟨?_, ?_, ?_, ?_, ?_, ?_, ?_, ?_, ?_⟩ <;> simp [World.cell?, e1]
theorem kd_split {k : Int} (h : 1 ≤ k ∧ k ≤ 3) : kdW k = kdN.getD k.toNat [] ++ [32] := by rcases kt_cases h with rfl | rfl | rfl <;> rfl
theorem ty_split {t : Int} (h : 1 ≤ t ∧ t ≤ 3) : tyW t = 32 :: tyN.getD t.toNat [] := by rcases kt_cases h with rfl | rfl | rfl <;> rfl
theorem kdN_len (i : Nat) : (kdN.getD i []).length ≤ 7 := by
  match i with
  | 0 => decide
  | 1 => decide
  | 2 => decide
  | 3 => decide
  | n + 4 => exact Nat.zero_le _
theorem tyN_len (i : Nat) : (tyN.getD i []).length ≤ 4 := by
  match i with
  | 0 => decide
  | 1 => decide
  | 2 => decide
  | 3 => decide
  | n + 4 => exact Nat.zero_le _
set_option maxRecDepth 100000 in
set_option maxHeartbeats 4000000 in
theorem fieldLine_any (e : FE) (w : World) (hf : FlOk (flE e)) (hx : 1 < e.kind → e.x.checkE = 0) (his : Is w e.x e.x.d e.B e.m) (hv : TVars w) :
    Calls Tryz.prog 26 #[.agg #[.string e.nm, .int .i64 e.kind, .int .i64 e.ty, .int .i64 e.x.d.op, .int .i64 e.x.d.k, .int .i64 e.x.d.n, .string e.x.d.s, .string e.x.d.nm, .slice e.B e.m e.c]] w fun r w' => r = .returned (.string ⟨(flL (flE e)).toArray⟩) ∧ Below w.heap.size w w' := by
  obtain ⟨nm, kind, ty, x, B, m, c⟩ := e
  simp only at hx his ⊢
  have hk : 1 ≤ kind ∧ kind ≤ 3 := hf.k
  have ht : 1 ≤ ty ∧ ty ≤ 3 := hf.t
  have hn : nm.data.toList.length ≤ 10 := (nmB_parts hf.nm).2.1
  obtain ⟨W1, hW1⟩ : ∃ V, w.alloc (fdBox (FE.fd ⟨nm, kind, ty, x, B, m, c⟩)) = V := ⟨_, rfl⟩
  obtain ⟨B1, hB1⟩ : ∃ B, w.heap.size = B := ⟨_, rfl⟩
  have hb1 := b_new w (fdBox (FE.fd ⟨nm, kind, ty, x, B, m, c⟩))
  have hcell := fd_nine w (FE.fd ⟨nm, kind, ty, x, B, m, c⟩)
  rw [hW1] at hb1 hcell
  rw [hB1] at hcell
  obtain ⟨x0, x1, x2, x3, x4, x5, x6, x7, x8⟩ := hcell W1 (Below.refl _ _)
  have hv1 := hv.below hb1
  obtain ⟨K, hK⟩ : ∃ K : ByteArray, K = ⟨(kdN.getD kind.toNat []).toArray⟩ := ⟨_, rfl⟩
  obtain ⟨T, hT⟩ : ∃ K : ByteArray, K = ⟨(tyN.getD ty.toNat []).toArray⟩ := ⟨_, rfl⟩
  have kc := kd_cell hv1 kind.toNat (by omega)
  have tc := ty_cell hv1 ty.toNat (by omega)
  rw [← hK] at kc
  rw [← hT] at tc
  have hKl : K.data.toList = kdN.getD kind.toNat [] := by rw [hK]
  have hTl : T.data.toList = tyN.getD ty.toNat [] := by rw [hT]
  have hKs : K.size ≤ 7 := by show K.data.toList.length ≤ _; rw [hKl]; exact kdN_len _
  have hTs : T.size ≤ 4 := by show T.data.toList.length ≤ _; rw [hTl]; exact tyN_len _
  have hns : nm.size ≤ 10 := hn
  have i0 : 0 ≤ kind := by omega
  have i5 := Lib.hid hk.1
  have i1 : kind < 4 := by omega
  have i2 : 0 ≤ ty := by omega
  have i3 : ty < 4 := by omega
  have hhead : kdW kind ++ (nm.data.toList ++ tyW ty) = K.data.toList ++ ([32] ++ (nm.data.toList ++ ([32] ++ T.data.toList))) := by
    rw [kd_split hk, ty_split ht, hKl, hTl]
    simp
  have hp : ∀ V, Below W1.heap.size W1 V → Calls Tryz.prog 23 _ V _ := fun V hV => PrT.print_any x x.d B m c V ((his.below hb1).below hV) (hv1.pr.below hV)
  obtain ⟨t, htx⟩ : ∃ t : ByteArray, t = ⟨(Ex.txt x).toArray⟩ := ⟨_, rfl⟩
  have hout : ∀ u : ByteArray, u.data.toList = kdW kind ++ (nm.data.toList ++ tyW ty) ++ (if 1 < kind then eqW ++ Ex.txt x else []) → Ending.returned (.string u) = .returned (.string ⟨(flL (flE ⟨nm, kind, ty, x, B, m, c⟩)).toArray⟩) := fun u hu => str_inj (by
    rw [hu]
    show _ = fieldL _ _ _ _
    unfold fieldL flE
    simp only [List.append_assoc])
  rw [hhead] at hout
  have HP := Lib.hid hp
  have HB := Lib.hid hb1
  have HCell := Lib.hid hcell
  have HW1 := Lib.hid hW1
  have HB1 := Lib.hid hB1
  have HOut := Lib.hid hout
  have HX := Lib.hid hx
  have HTx := Lib.hid htx
  clear hp hb1 hcell hW1 hB1 hout hx htx hhead hf hk ht hn hv hv1 his hK hT hKl hTl
  unfold fdBox FE.fd at HW1
  unfold FE.fd at HCell x0 x1 x2 x3 x4 x5 x6 x7 x8
  simp only at HW1 HCell x0 x1 x2 x3 x4 x5 x6 x7 x8
  by_cases h1 : kind = 1
  · have t1 : (kind == 1) = true := beq_iff_eq.2 h1
    have HO := Lib.hid (show ∀ u : ByteArray, u.data.toList = K.data.toList ++ ([32] ++ (nm.data.toList ++ ([32] ++ T.data.toList))) → Ending.returned (.string u) = .returned (.string ⟨(flL (flE ⟨nm, kind, ty, x, B, m, c⟩)).toArray⟩) from fun u hu => HOut.out u (by rw [hu, if_neg (by omega), List.append_nil]))
    clear h1 HOut HX
    go_enter Tryz.func26, Tryz.ntmps26
    go_upto_region 1 with fail
    rw [HW1.out, HB1.out]
    first | (go_quiet (fail)) | (fail)
    go_wp2_with fail
    go_ret
    exact ⟨HO.out _ (by simp), b_drewN HB.out _⟩
  · have t1 : (kind == 1) = false := beq_eq_false_iff_ne.2 h1
    have h1k : 1 < kind := by have := i5.out; omega
    have hck := HX.out h1k
    have HO := Lib.hid (show ∀ u : ByteArray, u.data.toList = K.data.toList ++ ([32] ++ (nm.data.toList ++ ([32] ++ T.data.toList))) ++ (eqW ++ Ex.txt x) → Ending.returned (.string u) = .returned (.string ⟨(flL (flE ⟨nm, kind, ty, x, B, m, c⟩)).toArray⟩) from fun u hu => HOut.out u (by rw [hu, if_pos h1k]))
    simp only [hck, if_pos] at HP
    rw [← HTx.out] at HP
    have hts : t.size ≤ 6000 := by show t.data.toList.length ≤ _; rw [HTx.out]; exact txt_le hck
    have htl : t.data.toList = Ex.txt x := by rw [HTx.out]
    have HTl := Lib.hid htl
    clear h1 h1k HOut HX hck htl
    go_enter Tryz.func26, Tryz.ntmps26
    go_upto_region 1 with fail
    rw [HW1.out, HB1.out]
    first | (go_quiet (fail)) | (fail)
    go_wp2_with fail
    refine (HP.out _ (b_drewN (Below.refl _ _) _)).mono ?_; rintro r w1 ⟨rfl, hb2⟩
    have HB2 := Lib.hid (b_trans HB.out ((b_drewN (Below.refl _ _) _).trans hb2))
    clear hb2
    go_wp2_with fail
    go_ret
    exact ⟨HO.out _ (by simp [HTl.out]), HB2.out⟩
theorem join_any (L : List ByteArray) (A : Option Addr) (c : Nat) (sep : ByteArray) (w : World) (h : TRow w A L) (hcap : L.length ≤ c) (hN : L.length ≤ 140737488355328) (hlen : (Lib.join (L.map (·.data.toList)) sep.data.toList).length ≤ 140737488355328) :
    Calls Tryz.prog 19 #[.slice A L.length c, .string sep] w fun e w' => e = .returned (.string ⟨(Lib.join (L.map (·.data.toList)) sep.data.toList).toArray⟩) ∧ Below w.heap.size w w' := by
  rcases Nat.eq_zero_or_pos L.length with h0 | h0
  · obtain rfl := List.eq_nil_of_length_eq_zero h0
    refine (Tryz.strings_Join_none A c sep w).mono fun e w' h => ?_
    obtain ⟨rfl, rfl⟩ := h
    exact ⟨rfl, Below.refl _ _⟩
  · obtain ⟨a, rfl, hc0⟩ := h 0 h0
    have hsp : a.spot = none := by
      unfold Addr.add at hc0
      rw [if_pos rfl] at hc0
      unfold World.cell? at hc0
      split at hc0
      · split at hc0
        · cases hc0
        · rename_i hs; simpa using hs
      · cases hc0
    obtain ⟨b, o, sp⟩ := a
    simp only at hsp
    subst hsp
    refine Tryz.strings_Join b o c L sep w (fun j x hj => ?_) (by have := cell_lt' hc0; rwa [block_of_add] at this) hN hcap hlen
    obtain ⟨hjl, rfl⟩ := List.getElem?_eq_some_iff.1 hj
    obtain ⟨a, e, hc⟩ := h j hjl
    injection e with e
    subst e
    unfold Addr.add at hc
    by_cases hz : j = 0
    · subst hz; rw [if_pos rfl] at hc; exact hc
    · rw [if_neg hz] at hc; exact hc
set_option maxRecDepth 100000 in
set_option maxHeartbeats 4000000 in
theorem pageLine_any (e : PE) (w : World) (hf : PlOk (plE e)) (hx : bareB e.x.d e.m ≠ true → e.x.checkE = 0) (hfew : e.fs.length ≤ 14) (hrow : TRow w e.F e.fs) (hcap : e.fs.length ≤ e.fc) (his : Is w e.x e.x.d e.B e.m) (hv : TVars w) :
    Calls Tryz.prog 27 #[.agg #[.string e.nm, .slice e.F e.fs.length e.fc, .int .i64 e.x.d.op, .int .i64 e.x.d.k, .int .i64 e.x.d.n, .string e.x.d.s, .string e.x.d.nm, .slice e.B e.m e.c]] w fun r w' => r = .returned (.string ⟨(plL (plE e)).toArray⟩) ∧ Below w.heap.size w w' := by
  have hn : e.nm.data.toList.length ≤ 10 := (nmB_parts hf.nm).2.1
  have hns : e.nm.size ≤ 10 := hn
  have hfs : ∀ s ∈ e.fs, s.data.toList.length ≤ 10 := fun s hs => (nmB_parts (hf.fs s.data.toList (List.mem_map.2 ⟨s, hs, rfl⟩))).2.1
  obtain ⟨J, hJ⟩ : ∃ J : ByteArray, J = ⟨(commas (e.fs.map fun s => s.data.toList)).toArray⟩ := ⟨_, rfl⟩
  have hJl : J.data.toList = commas (e.fs.map fun s => s.data.toList) := by rw [hJ]
  have hJs : J.size ≤ 1000 := by
    show J.data.toList.length ≤ _
    rw [hJl]
    have := commas_len (e.fs.map fun s => s.data.toList) 10 (fun s hs => by obtain ⟨t, ht, rfl⟩ := List.mem_map.1 hs; exact hfs t ht)
    rw [List.length_map] at this
    omega
  have hjoin : ∀ V, Below w.heap.size w V → Calls Tryz.prog 19 #[.slice e.F e.fs.length e.fc, .string ⟨#[44, 32]⟩] V fun r w' => r = .returned (.string J) ∧ Below V.heap.size V w' := fun V hV => by
    have := join_any e.fs e.F e.fc ⟨#[44, 32]⟩ V (hrow.below hV) hcap (by omega) (by
      rw [show (⟨#[44, 32]⟩ : ByteArray).data.toList = [44, 32] from rfl, join_commas, ← hJl]
      show J.size ≤ _
      omega)
    rw [show (⟨#[44, 32]⟩ : ByteArray).data.toList = [44, 32] from rfl, join_commas, ← hJ] at this
    exact this
  obtain ⟨W1, hW1⟩ : ∃ V, w.alloc (pgBox e) = V := ⟨_, rfl⟩
  obtain ⟨B1, hB1⟩ : ∃ B, w.heap.size = B := ⟨_, rfl⟩
  have hb1 := b_new w (pgBox e)
  have hcell := pg_cells w e
  rw [hW1] at hb1 hcell
  rw [hB1] at hcell
  obtain ⟨x0, x1, x2, x3, x4, x5, x6, x7⟩ := hcell W1 (Below.refl _ _)
  have hnev : ∀ V, Below W1.heap.size W1 V → Calls Tryz.prog 57 _ V _ := fun V hV => PgB.never_any e V
  have hp : ∀ V, Below W1.heap.size W1 V → Calls Tryz.prog 23 _ V _ := fun V hV => PrT.print_any e.x e.x.d e.B e.m e.c V ((his.below hb1).below hV) ((hv.below hb1).pr.below hV)
  obtain ⟨t, htx⟩ : ∃ t : ByteArray, t = ⟨(Ex.txt e.x).toArray⟩ := ⟨_, rfl⟩
  have s1 := adds ⟨#[112, 97, 103, 101, 32]⟩ e.nm (by decide) (by omega)
  have s2 := adds (⟨#[112, 97, 103, 101, 32]⟩ ++ e.nm) ⟨#[58, 32]⟩ (by rw [ByteArray.size_append]; show 5 + _ ≤ _; omega) (by decide)
  have s3 := adds (⟨#[112, 97, 103, 101, 32]⟩ ++ e.nm ++ ⟨#[58, 32]⟩) J (by rw [ByteArray.size_append, ByteArray.size_append]; show 5 + _ + 2 ≤ _; omega) (by omega)
  have hout : ∀ u : ByteArray, u.data.toList = pgW ++ (e.nm.data.toList ++ (coW ++ J.data.toList)) ++ skL (if (!bareB e.x.d e.m) = true then some (Ex.txt e.x) else none) → Ending.returned (.string u) = .returned (.string ⟨(plL (plE e)).toArray⟩) := fun u hu => str_inj (by
    rw [hu, hJl]
    show _ = pageL _ _ _
    unfold pageL plE
    simp only [List.append_assoc])
  obtain ⟨b, hb⟩ : ∃ b, bareB e.x.d e.m = b := ⟨_, rfl⟩
  rw [hb] at hout hx hnev
  have HJ := Lib.hid (fun V hV => hjoin V (b_trans hb1 hV))
  have HN := Lib.hid hnev
  have HP := Lib.hid hp
  have HB := Lib.hid hb1
  have HCell := Lib.hid hcell
  have HW1 := Lib.hid hW1
  have HB1 := Lib.hid hB1
  have HOut := Lib.hid hout
  have HX := Lib.hid hx
  have HTx := Lib.hid htx
  have hbl := Below.refl W1.heap.size W1
  clear hjoin hnev hp hb1 hcell hW1 hB1 hout hx htx hf hn hv his hJ hJl hfs hrow hcap hfew hb
  unfold pgBox at HW1
  generalize e.x.d = d at *
  generalize e.fs.length = fl at *
  go_enter Tryz.func27, Tryz.ntmps27
  go_upto_region 1 with fail
  rw [HW1.out, HB1.out]
  go_region_held3 (fun V => V.cell? ⟨B1, 0, none⟩ = some (.string e.nm) ∧ V.cell? ⟨B1, 1, none⟩ = some (.slice e.F fl e.fc)) (first | (with_reducible exact ⟨(HCell.out _ hbl).1, (HCell.out _ hbl).2.1⟩) | (with_reducible exact ⟨(HCell.out _ (b_drew hbl)).1, (HCell.out _ (b_drew hbl)).2.1⟩)) (first | (go_at_call 19; (with_reducible refine (HJ.out _ ?_).mono ?_); (first | exact hbl | exact b_drew hbl); rintro r w2 ⟨rfl, hb2⟩; have hbl : Below W1.heap.size W1 w2 := (by first | exact hbl.trans (hb2.mono hbl.size) | exact (b_drew hbl).trans (hb2.mono hbl.size)); obtain ⟨x0, x1, x2, x3, x4, x5, x6, x7⟩ := HCell.out w2 hbl; clear hb2) | (fail))
  all_goals
    have HBl := Lib.hid hbl
    clear hbl s1 s2 s3
    go_wp2_with fail
    refine (HN.out _ HBl.out).mono ?_; rintro r w3 ⟨rfl, hb3⟩
    have hbl := b_trans HBl.out hb3
    obtain ⟨x0, x1, x2, x3, x4, x5, x6, x7⟩ := HCell.out w3 hbl
    have HB3 := Lib.hid hbl
    clear hb3 hbl
    cases b with
    | true =>
      go_wp2_with fail
      go_ret
      exact ⟨HOut.out _ (by simp [skL]), b_trans HB.out HB3.out⟩
    | false =>
      have hck := HX.out (by decide)
      simp only [hck, if_pos] at HP
      rw [← HTx.out] at HP
      have hts : t.size ≤ 6000 := by show t.data.toList.length ≤ _; rw [HTx.out]; exact txt_le hck
      have htl : t.data.toList = Ex.txt e.x := by rw [HTx.out]
      have HTl := Lib.hid htl
      clear hck htl
      go_wp2_with fail
      refine (HP.out _ HB3.out).mono ?_; rintro r w4 ⟨rfl, hb4⟩
      have HB4 := Lib.hid (b_trans HB.out (b_trans HB3.out hb4))
      clear hb4
      go_wp2_with fail
      go_ret
      exact ⟨HOut.out _ (by simp [HTl.out, skL]), HB4.out⟩
def linesB (es : List FE) (ps : List PE) : List ByteArray := (linesF (es.map flE) (ps.map plE)).map fun l => ⟨l.toArray⟩
theorem linesB_len (es : List FE) (ps : List PE) : (linesB es ps).length = es.length + ps.length := by unfold linesB linesF; simp
theorem linesB_fl (es : List FE) (ps : List PE) (k : Nat) (h : k < es.length) (h2 : k < (linesB es ps).length) : (linesB es ps)[k] = ⟨(flL (flE es[k])).toArray⟩ := by
  unfold linesB linesF at h2 ⊢
  rw [List.getElem_map, List.getElem_append_left (by simpa using h), List.getElem_map, List.getElem_map]
theorem linesB_pl (es : List FE) (ps : List PE) (k : Nat) (h : k < ps.length) (h2 : es.length + k < (linesB es ps).length) : (linesB es ps)[es.length + k] = ⟨(plL (plE ps[k])).toArray⟩ := by
  unfold linesB linesF at h2 ⊢
  rw [List.getElem_map, List.getElem_append_right (by simp)]
  simp
theorem join_lines : ∀ ls : List (List UInt8), Lib.join ls [10] = joinN ls
  | [] => rfl
  | [a] => Lib.join_one a [10]
  | a :: b :: r => by
    have ih := join_lines (b :: r)
    unfold Lib.join List.intercalate at ih ⊢
    have e : joinN (a :: b :: r) = a ++ (10 :: joinN (b :: r)) := rfl
    rw [e, ← ih]
    simp
theorem join_linesB (es : List FE) (ps : List PE) : Lib.join ((linesB es ps).map (·.data.toList)) (⟨#[10]⟩ : ByteArray).data.toList = formL es ps := by
  rw [show (⟨#[10]⟩ : ByteArray).data.toList = [10] from rfl, join_lines]
  unfold formL linesB
  rw [List.map_map]
  congr 1
  exact List.map_id _
/-- Between two lines. -/
structure LbI (w : World) (L : List ByteArray) (k : Nat) (v : Value) (wr : World) : Prop where
  le : k ≤ L.length
  own : wr.ownsRow w.heap.size 9 1 v k (NmA.strV (L.take k))
  below : Below w.heap.size w wr
theorem LbI.step {w wr w1 w3 : World} {L : List ByteArray} {k : Nat} {v v' : Value} {o2 : Obj} (h : LbI w L k v wr) (hk : k < L.length) (hb : Below wr.heap.size wr w1)
    (ho : w3.ownsRow w.heap.size 9 1 v' (k + 1) (NmA.strV (L.take k) ++ [.string L[k]])) (hg : (w1.alloc o2).grownBy w3 v.ownBlock) : LbI w L (k + 1) v' w3 := by
  have hs := h.below.size
  have hb1 : Below w.heap.size w w1 := b_trans h.below hb
  refine ⟨hk, ?_, (hb1.alloc hb1.size _).grown hg (by have := hb1.size; simp; omega) (fun g hg => (h.own.lt g hg).1)⟩
  rw [List.take_succ_eq_append_getElem hk]
  unfold NmA.strV at ho ⊢
  rw [List.map_append]
  exact ho
theorem fl_pass {w : World} {es : List FE} {ps : List PE} {X : Nat → Ex} (h : FormOk w es ps X) (k : Nat) (hk : k < es.length) : FlOk (flE es[k]) ∧ (1 < es[k].kind → es[k].x.checkE = 0) :=
  ⟨h.fl.1 _ (List.mem_map.2 ⟨es[k], List.getElem_mem hk, rfl⟩), h.fl.2 _ (List.mem_map.2 ⟨es[k], List.getElem_mem hk, rfl⟩)⟩
theorem pl_pass {w : World} {es : List FE} {ps : List PE} {X : Nat → Ex} (h : FormOk w es ps X) (k : Nat) (hk : k < ps.length) : PlOk (plE ps[k]) ∧ (bareB ps[k].x.d ps[k].m ≠ true → ps[k].x.checkE = 0) :=
  ⟨h.pl.1 _ (List.mem_map.2 ⟨ps[k], List.getElem_mem hk, rfl⟩), fun hb => h.pl.2 _ (List.mem_map.2 ⟨ps[k], List.getElem_mem hk, rfl⟩) (by show (!bareB ps[k].x.d ps[k].m) = true; simpa using hb)⟩
theorem pl_few {w : World} {es : List FE} {ps : List PE} {X : Nat → Ex} (h : FormOk w es ps X) (i : Nat) (hi : i < ps.length) : ps[i].fs.length ≤ 14 := by
  have h0 := ((page_zero h.pages).2 i hi).1
  unfold pageE at h0
  rw [dif_pos hi, if_pos ((page_zero h.pages).2 i hi).2.1, if_neg ((page_zero h.pages).2 i hi).2.2] at h0
  by_cases h6 : scan (nameE (es.map FE.fd) (metP ps i) ps[i].fs) ps[i].fs.length = 0
  · have := names_few h6
    rw [List.length_map] at this
    have := h.few.1
    omega
  · rw [if_neg h6] at h0; exact absurd h0 h6
set_option maxRecDepth 100000 in
set_option maxHeartbeats 8000000 in
/-- P13.1: what sheet.Check tells is R. -/
theorem print_any (es : List FE) (ps : List PE) (X : Nat → Ex) (FA : Option Addr) (fc : Nat) (PA : Option Addr) (pc : Nat) (R : Int) (w : World) (hfl : Flds w FA (es.map FE.fd)) (hpg : Pgs w PA ps) (hok : PgsOk w ps) (hcp : ∀ e ∈ ps, e.fs.length ≤ e.fc) (hn : es.length ≤ 1048576) (hpn : ps.length ≤ 1048576)
    (hR : R = 0 → FormOk w es ps X) (hC : ∀ V, Below w.heap.size w V → Calls Tryz.prog 25 #[.agg #[.slice FA es.length fc, .slice PA ps.length pc]] V fun e w' => e = .returned (.int .i64 R) ∧ Below V.heap.size V w') (hv : TVars w) :
    Calls Tryz.prog 8 #[.agg #[.slice FA es.length fc, .slice PA ps.length pc]] w fun e w' => e = .returned (.tuple #[.string ⟨(if R = 0 then formL es ps else []).toArray⟩, .int .i64 R]) ∧ Below w.heap.size w w' := by
  obtain ⟨i0, hi, hz0, hz1, hz2⟩ := info_parts GenL.infoStr
  obtain ⟨W1, hW1⟩ : ∃ V, w.alloc (frBox FA es.length fc PA ps.length pc) = V := ⟨_, rfl⟩
  obtain ⟨B1, hB1⟩ : ∃ B, w.heap.size = B := ⟨_, rfl⟩
  have hb1 := b_new w (frBox FA es.length fc PA ps.length pc)
  have hcell := fr_cells w FA es.length fc PA ps.length pc
  rw [hW1] at hb1 hcell
  rw [hB1] at hcell
  obtain ⟨x0, x1⟩ := hcell W1 (Below.refl _ _)
  have HC := Lib.hid hC
  have HB := Lib.hid hb1
  have HCell := Lib.hid hcell
  have HW1 := Lib.hid hW1
  have HB1 := Lib.hid hB1
  have HR := Lib.hid hR
  have HF := Lib.hid hfl
  have HP := Lib.hid hpg
  have HOk := Lib.hid hok
  have HV := Lib.hid hv
  have HCp := Lib.hid hcp
  clear hC hb1 hcell hW1 hB1 hR hfl hpg hok hv hcp
  unfold frBox at HW1
  by_cases h0 : R = 0
  · subst h0
    rw [if_pos rfl]
    have hform := HR.out rfl
    have hfew := hform.few
    obtain ⟨L, hL⟩ : ∃ L, linesB es ps = L := ⟨_, rfl⟩
    have hLl : L.length = es.length + ps.length := by rw [← hL]; exact linesB_len es ps
    have hline : ∀ (k : Nat) (h : k < es.length), ∃ s : ByteArray, L[k]? = some s ∧ ∀ V, Below w.heap.size w V → Calls Tryz.prog 26 #[.agg #[.string es[k].nm, .int .i64 es[k].kind, .int .i64 es[k].ty, .int .i64 es[k].x.d.op, .int .i64 es[k].x.d.k, .int .i64 es[k].x.d.n, .string es[k].x.d.s, .string es[k].x.d.nm, .slice es[k].B es[k].m es[k].c]] V fun r w' => r = .returned (.string s) ∧ Below V.heap.size V w' := fun k hk => by
      have h2 : k < (linesB es ps).length := by rw [linesB_len]; omega
      have hpass := fl_pass hform k hk
      refine ⟨⟨(flL (flE es[k])).toArray⟩, by rw [← hL, List.getElem?_eq_getElem h2, linesB_fl es ps k hk h2], fun V hV => fieldLine_any es[k] V hpass.1 hpass.2 ((hform.fi k hk).below hV) (HV.out.below hV)⟩
    have hpline : ∀ (k : Nat) (h : k < ps.length), ∃ s : ByteArray, L[es.length + k]? = some s ∧ ∀ V, Below w.heap.size w V → Calls Tryz.prog 27 #[.agg #[.string ps[k].nm, .slice ps[k].F ps[k].fs.length ps[k].fc, .int .i64 ps[k].x.d.op, .int .i64 ps[k].x.d.k, .int .i64 ps[k].x.d.n, .string ps[k].x.d.s, .string ps[k].x.d.nm, .slice ps[k].B ps[k].m ps[k].c]] V fun r w' => r = .returned (.string s) ∧ Below V.heap.size V w' := fun k hk => by
      have h2 : es.length + k < (linesB es ps).length := by rw [linesB_len]; omega
      have hpass := pl_pass hform k hk
      have hmem := List.getElem_mem hk
      refine ⟨⟨(plL (plE ps[k])).toArray⟩, by rw [← hL, List.getElem?_eq_getElem h2, linesB_pl es ps k hk h2], fun V hV => pageLine_any ps[k] V hpass.1 hpass.2 (pl_few hform k hk) ((HOk.out _ hmem).row.below hV) (HCp.out _ hmem) ((hform.pi k hk).below hV) (HV.out.below hV)⟩
    have hjoin : ∀ (g cap : Nat) (V : World), (∀ (j : Nat) x, L[j]? = some x → V.cell? ⟨g, 0 + j, none⟩ = some (.string x)) → g < V.heap.size → L.length ≤ cap → Calls Tryz.prog 19 #[.slice (some ⟨g, 0, none⟩) (es.length + ps.length) cap, .string ⟨#[10]⟩] V fun r w' => r = .returned (.string ⟨(formL es ps).toArray⟩) ∧ Below V.heap.size V w' := fun g cap V hc hg hcap => by
      have := Tryz.strings_Join g 0 cap L ⟨#[10]⟩ V hc hg (by omega) hcap (by rw [← hL, join_linesB]; have := hform.size; omega)
      rw [hLl, ← hL, join_linesB] at this
      exact this
    obtain ⟨out, hout⟩ : ∃ out : ByteArray, out = ⟨(formL es ps).toArray⟩ := ⟨_, rfl⟩
    rw [← hout] at hjoin ⊢
    have HLine := Lib.hid hline
    have HPLine := Lib.hid hpline
    have HJoin := Lib.hid hjoin
    have HLl := Lib.hid hLl
    have HFew := Lib.hid hfew
    obtain ⟨en, hen⟩ : ∃ en, es.length = en := ⟨_, rfl⟩
    have hF' : ∀ V, Below w.heap.size w V → ∀ k (h : k < es.length), ∃ ad, FA = some ad ∧ FdAt V (ad.add (k * 9)) es[k].fd := fun V hV k hk => by
      obtain ⟨ad, e, hat⟩ := HF.out.below hV k (by rw [List.length_map]; exact hk)
      rw [List.getElem_map] at hat
      exact ⟨ad, e, hat⟩
    have HF' := Lib.hid hF'
    clear hform hfew hL hLl hline hpline hjoin hout hF' hen HR
    go_enter Tryz.func8, Tryz.ntmps8
    go_upto_region 1 with fail
    rw [HW1.out, HB1.out]
    go_wp2_with fail
    refine (HC.out _ HB.out).mono ?_; rintro e w1 ⟨rfl, hb1⟩
    obtain ⟨c0, c1⟩ := HCell.out w1 hb1
    have HB2 := Lib.hid (b_trans HB.out hb1)
    have HBx := Lib.hid hb1
    clear hb1
    go_wp2_with fail
    go_loopw [5, 7, 18] (fun v _ ii wr => ∃ (k : Nat) (u : Value), u = v ∧ ii = .int .i64 k ∧ k ≤ es.length ∧ LbI w1 L k u wr) (fun _ _ ii _ => es.length - (intOf ii).toNat)
    case atStart => exact ⟨0, _, rfl, rfl, Nat.zero_le _, ⟨Nat.zero_le _, World.ownsRow_nil _ _ _ _, Below.refl _ _⟩⟩
    case round =>
      obtain ⟨k, v, rfl, rfl, hk, hI⟩ := hrel
      obtain ⟨wa, rfl⟩ : ∃ V, V = wr := ⟨_, rfl⟩
      by_cases hlt : k < es.length
      · obtain ⟨ad, rfl, hat⟩ := HF'.out wa (b_trans HB2.out hI.below) k hlt
        obtain ⟨ln, hln, hcall⟩ := HLine.out k hlt
        obtain ⟨f, hfk⟩ : ∃ f, es[k] = f := ⟨_, rfl⟩
        rw [hfk] at hat hcall
        obtain ⟨q0, q1, q2, q3, q4, q5, q6, q7, q8⟩ := hat
        unfold FE.fd at q0 q1 q2 q3 q4 q5 q6 q7 q8
        simp only at q0 q1 q2 q3 q4 q5 q6 q7 q8
        obtain ⟨W5, hW5⟩ : ∃ V, wa.alloc (fdBox f.fd) = V := ⟨_, rfl⟩
        obtain ⟨B9, hB9⟩ : ∃ B, wa.heap.size = B := ⟨_, rfl⟩
        have hb5 := b_new wa (fdBox f.fd)
        have hcl := fd_nine wa f.fd
        rw [hW5, hB9] at hcl
        rw [hW5] at hb5
        unfold FE.fd at hcl
        simp only at hcl
        obtain ⟨z0, z1, z2, z3, z4, z5, z6, z7, z8⟩ := hcl W5 (Below.refl _ _)
        have hbL := hI.below
        have HCall := Lib.hid (hcall W5 (b_trans HB2.out (b_trans hbL hb5)))
        have HI := Lib.hid hI
        have HLn := Lib.hid hln
        have HW5 := Lib.hid hW5
        have HB9 := Lib.hid hB9
        have HB5 := Lib.hid hb5
        clear hcl hcall hI hln hW5 hB9 hb5 hbL hfk
        unfold fdBox FE.fd at HW5
        go_upto_region 8 with fail
        rw [HW5.out, HB9.out]
        go_wp2_with fail
        refine HCall.out.mono ?_; rintro e w6 ⟨rfl, hb6⟩
        have hown := (own_below HI.out.own (b_trans HB5.out hb6)).alloc (.cells #[.string ln] 9)
        have hz9 : w1.heap.size ≤ w6.heap.size := (b_trans HI.out.below (b_trans HB5.out hb6)).size
        have hkl : k ≤ 1048576 := by omega
        have HB6 := Lib.hid (b_trans HB5.out hb6)
        clear hb6
        go_wp2_with (at_builtin; refine wpList_append_own _ rfl _ _ 38 rfl w1.heap.size 9 i0 (.string ⟨#[]⟩) 1 16 Tryz.underlying38 hi hz0 hz1 hz2 rfl (by decide) _ _ _ rfl hown ⟨w6.heap.size, 0, none⟩ 1 1 [.string ln] rfl rfl ?c1 ?c2 ?c3 ?c4 ?c5 ?_)
        case c1 =>
          intro j y hj
          match j, hj with
          | 0, hj => simp at hj; subst hj; simp [Addr.add]
          | j + 1, hj => simp at hj
        case c2 => intro y hy; simp at hy; subst hy; rfl
        case c3 => unfold maxLen; omega
        case c4 => omega
        case c5 => simp; omega
        intro v' w3 hown3 hgrow _
        have hkL : k < L.length := by have := HLl.out; omega
        have hLk : L[k] = ln := by
          have := HLn.out
          rw [List.getElem?_eq_getElem hkL] at this
          injection this
        rw [← hLk] at hown3
        have hN := HI.out.step hkL HB6.out hown3 hgrow
        have HN := Lib.hid hN
        clear hN hown3 hgrow hown hLk hkL
        go_wp2
        go_roundw
        case rel => exact ⟨k + 1, _, rfl, by go_num, by omega, HN.out⟩
        case measure => simp [intOf]; omega
      · have hke : k = es.length := by omega
        subst hke
        have hb2 := hI.below
        obtain ⟨c0, c1⟩ := HCell.out wa (b_trans HBx.out hb2)
        have HI2 := Lib.hid hI
        clear hI hb2 hlt
        go_wp2_with fail
        go_loopw [5, 9, 31] (fun v _ ii wr => ∃ (k : Nat) (u : Value), u = v ∧ ii = .int .i64 k ∧ k ≤ ps.length ∧ LbI w1 L (es.length + k) u wr) (fun _ _ ii _ => ps.length - (intOf ii).toNat)
        case atStart => exact ⟨0, _, rfl, rfl, Nat.zero_le _, HI2.out⟩
        case round =>
          obtain ⟨k, v, rfl, rfl, hk, hI⟩ := hrel
          obtain ⟨wb, rfl⟩ : ∃ V, V = wr := ⟨_, rfl⟩
          by_cases hlt : k < ps.length
          · obtain ⟨ad, rfl, hat⟩ := HP.out.below (b_trans HB2.out hI.below) k hlt
            obtain ⟨ln, hln, hcall⟩ := HPLine.out k hlt
            obtain ⟨f, hfk⟩ : ∃ f, ps[k] = f := ⟨_, rfl⟩
            rw [hfk] at hat hcall
            obtain ⟨q0, q1, q2, q3, q4, q5, q6, q7⟩ := hat
            obtain ⟨W5, hW5⟩ : ∃ V, wb.alloc (pgBox f) = V := ⟨_, rfl⟩
            obtain ⟨B9, hB9⟩ : ∃ B, wb.heap.size = B := ⟨_, rfl⟩
            have hb5 := b_new wb (pgBox f)
            have hcl := pg_cells wb f
            rw [hW5, hB9] at hcl
            rw [hW5] at hb5
            obtain ⟨z0, z1, z2, z3, z4, z5, z6, z7⟩ := hcl W5 (Below.refl _ _)
            have hbL := hI.below
            have HCall := Lib.hid (hcall W5 (b_trans HB2.out (b_trans hbL hb5)))
            have HI := Lib.hid hI
            have HLn := Lib.hid hln
            have HW5 := Lib.hid hW5
            have HB9 := Lib.hid hB9
            have HB5 := Lib.hid hb5
            clear hcl hcall hI hln hW5 hB9 hb5 hbL hfk
            unfold pgBox at HW5
            go_upto_region 13 with fail
            rw [HW5.out, HB9.out]
            go_wp2_with fail
            refine HCall.out.mono ?_; rintro e w6 ⟨rfl, hb6⟩
            have hown := (own_below HI.out.own (b_trans HB5.out hb6)).alloc (.cells #[.string ln] 9)
            have hz9 : w1.heap.size ≤ w6.heap.size := (b_trans HI.out.below (b_trans HB5.out hb6)).size
            have hkl : k ≤ 1048576 := by omega
            have HB6 := Lib.hid (b_trans HB5.out hb6)
            clear hb6
            go_wp2_with (at_builtin; refine wpList_append_own _ rfl _ _ 38 rfl w1.heap.size 9 i0 (.string ⟨#[]⟩) 1 16 Tryz.underlying38 hi hz0 hz1 hz2 rfl (by decide) _ _ _ rfl hown ⟨w6.heap.size, 0, none⟩ 1 1 [.string ln] rfl rfl ?c1 ?c2 ?c3 ?c4 ?c5 ?_)
            case c1 =>
              intro j y hj
              match j, hj with
              | 0, hj => simp at hj; subst hj; simp [Addr.add]
              | j + 1, hj => simp at hj
            case c2 => intro y hy; simp at hy; subst hy; rfl
            case c3 => unfold maxLen; omega
            case c4 => omega
            case c5 => simp; omega
            intro v' w3 hown3 hgrow _
            have hkL : es.length + k < L.length := by have := HLl.out; omega
            have hLk : L[es.length + k] = ln := by
              have := HLn.out
              rw [List.getElem?_eq_getElem hkL] at this
              injection this
            rw [← hLk] at hown3
            have hN := HI.out.step hkL HB6.out hown3 hgrow
            have HN := Lib.hid hN
            clear hN hown3 hgrow hown hLk hkL
            go_wp2
            go_roundw
            case rel => exact ⟨k + 1, _, rfl, by go_num, by omega, HN.out⟩
            case measure => simp [intOf]; omega
          · have hke : k = ps.length := by omega
            subst hke
            have hown := hI.own
            rw [List.take_of_length_le (by have := HLl.out; omega)] at hown
            obtain ⟨g, cap, rfl, _, hgl, hlc, hcm, hcl⟩ := own_form hown (by have := HFew.out; omega)
            have hcells : ∀ (j : Nat) x, L[j]? = some x → wb.cell? ⟨g, 0 + j, none⟩ = some (.string x) := fun j x hjx => by
              have hjl : j < L.length := (List.getElem?_eq_some_iff.1 hjx).1
              rw [Nat.zero_add, hcl j (by have := HLl.out; omega)]
              unfold NmA.strV
              rw [List.getElem?_map, hjx]; rfl
            have hj := HJoin.out g cap wb hcells hgl (by have := HLl.out; omega)
            have HJ := Lib.hid hj
            have HBb := Lib.hid (b_trans HB2.out hI.below)
            clear hj hown hcl hI hcells hlc
            go_wp2_with fail
            refine HJ.out.mono ?_; rintro e w9 ⟨rfl, hb9⟩
            have HB9 := Lib.hid (b_trans HBb.out hb9)
            clear hb9
            go_wp2_with fail
            go_ret2
            exact ⟨rfl, HB9.out⟩
  · rw [if_neg h0]
    have t1 : (R != 0) = true := bne_iff_ne.2 h0
    clear h0 HR
    go_enter Tryz.func8, Tryz.ntmps8
    go_upto_region 1 with fail
    rw [HW1.out, HB1.out]
    go_wp2_with fail
    refine (HC.out _ HB.out).mono ?_; rintro e w1 ⟨rfl, hb1⟩
    have HB2 := Lib.hid (b_trans HB.out hb1)
    clear hb1
    go_wp2_with fail
    go_ret2
    exact ⟨rfl, HB2.out⟩
end Go.Proofs.YtdefaeieiaegaaaGreatDoor.TxQ
namespace Go.Proofs.YtdefaeieiaegaaaGreatDoor.IMp
open Go.RowKit Go.Maps Kit SMp
set_option linter.unusedVariables false
theorem intKeyed : Keyed Tryz.prog 3 := int_keyed Tryz.underlying3
def wfI (k : Int) : Prop := (Lit.int .i64 k).wf = true
theorem wfI_of {k : Int} (h1 : -9223372036854775808 ≤ k) (h2 : k ≤ 9223372036854775807) : wfI k := by
  show (decide (IntKind.i64.min ≤ k) && decide (k ≤ IntKind.i64.max)) = true
  rw [Bool.and_eq_true, decide_eq_true_eq, decide_eq_true_eq]
  exact ⟨h1, h2⟩
theorem keyI {k : Int} (h : wfI k) : keyOf Tryz.prog 3 (.int .i64 k) = some (.int .i64 k) := keyOf_int_mk Tryz.underlying3 h
/-- What a datum says of a number. -/
def ReadsI (D : DataW Value) (M : Int → Option Value) : Prop := ∀ s : Int, has D (.int .i64 s) = (M s).isSome ∧ ∀ v, M s = some v → ∀ z, D.atKey (.int .i64 s) z = .held v
/-- The map at block m, of at most n names. -/
structure IM (W : World) (m n : Nat) (M : Int → Option Value) : Prop where
  own : ∃ D, W.ownsMap Tryz.prog 3 hv m n D ∧ ReadsI D M
theorem IM.made (w : World) : IM (w.alloc (.map #[] 0)) w.heap.size 0 (fun _ => none) := ⟨_, World.ownsMap_made w _ _ _, fun s => ⟨rfl, fun v h => by cases h⟩⟩
theorem IM.lt {W : World} {m n : Nat} {M : Int → Option Value} (h : IM W m n M) : m < W.heap.size := by
  obtain ⟨D, hD, _⟩ := h.own
  exact hD.lt
theorem IM.kept {W W' : World} {m n : Nat} {M : Int → Option Value} {row : Option Nat} (h : IM W m n M) (hg : W.grownBy W' row) (hne : some m ≠ row) : IM W' m n M := by
  obtain ⟨D, hD, hall⟩ := h.own
  exact ⟨D, hD.kept hg hne, hall⟩
theorem IM.below {W W' : World} {m n : Nat} {M : Int → Option Value} (h : IM W m n M) (hb : Below W.heap.size W W') : IM W' m n M := h.kept (grown_of_below hb) (by simp)
theorem IM.alloc {W : World} {m n : Nat} {M : Int → Option Value} (h : IM W m n M) (o : Obj) : IM (W.alloc o) m n M := h.kept (World.grownBy_alloc W o none) (by simp)
theorem IM.mono {W : World} {m n n' : Nat} {M : Int → Option Value} (h : IM W m n M) (hn : n ≤ n') : IM W m n' M := by
  obtain ⟨D, hD, hall⟩ := h.own
  exact ⟨D, hD.mono hn, hall⟩
theorem IM.to {W : World} {m n : Nat} {M M' : Int → Option Value} (h : IM W m n M) (e : ∀ s, M s = M' s) : IM W m n M' := by
  obtain rfl : M = M' := funext e
  exact h
theorem ReadsI.not {D : DataW Value} {M : Int → Option Value} (h : ReadsI D M) {s : Int} (hn : M s = none) : has D (.int .i64 s) = false := by rw [(h s).1, hn]; rfl
set_option maxRecDepth 100000 in
theorem look_gen {W : World} {m n : Nat} {M : Int → Option Value} (c : Bool) (h : IM W m n M) {T te : TypeId} (ht : Tryz.prog.underlying T = some (.map 3 te)) {z : Value} (hz : (zeroValue te).run Tryz.prog W = .ok z W) (s : Int) (hs : wfI s) :
    (Instr.lookup T (.map (some m)) (.int .i64 s) c).run Tryz.prog W = .ok (if c then .tuple #[(M s).getD z, .bool (M s).isSome] else (M s).getD z) W := by
  obtain ⟨D, hD, hall⟩ := h.own
  obtain ⟨hh, hat⟩ := hall s
  obtain ⟨es, clock, hb, F, _, rfl⟩ := hD
  rcases Maps.fit_look c intKeyed ht hz hb F (keyI hs) with ⟨hrun, _, h1⟩ | ⟨q, y, _, _, hrun, hRv, h1, _⟩
  · rw [has_false_of_atKey h1] at hh
    rcases hf : M s with _ | v
    · rw [hrun]; cases c <;> rfl
    · rw [hf] at hh; cases hh
  · rw [has_true_of_atKey h1] at hh
    rcases hf : M s with _ | v
    · rw [hf] at hh; cases hh
    · have e1 := (hat v hf .nil).symm.trans (h1 .nil)
      have hy : hv q.val = some y := hRv
      unfold hv at hy
      injection hy with hy
      subst hy
      injection e1 with e1
      subst e1
      rw [hrun]; cases c <;> rfl
theorem IM.look {W : World} {m n : Nat} {M : Int → Option Value} (h : IM W m n M) {T te : TypeId} (ht : Tryz.prog.underlying T = some (.map 3 te)) {z : Value} (hz : (zeroValue te).run Tryz.prog W = .ok z W) (s : Int) (hs : wfI s) :
    (Instr.lookup T (.map (some m)) (.int .i64 s) true).run Tryz.prog W = .ok (.tuple #[(M s).getD z, .bool (M s).isSome]) W := look_gen true h ht hz s hs
theorem IM.look1 {W : World} {m n : Nat} {M : Int → Option Value} (h : IM W m n M) {T te : TypeId} (ht : Tryz.prog.underlying T = some (.map 3 te)) {z : Value} (hz : (zeroValue te).run Tryz.prog W = .ok z W) (s : Int) (hs : wfI s) :
    (Instr.lookup T (.map (some m)) (.int .i64 s) false).run Tryz.prog W = .ok ((M s).getD z) W := look_gen false h ht hz s hs
theorem ReadsI.put {D : DataW Value} {M : Int → Option Value} (h : ReadsI D M) (hm : IsMap D) (s : Int) (v : Value) : ReadsI (D.put (.int .i64 s) (.held v)) (fun t => if t = s then some v else M t) := fun t => by
  by_cases he : t = s
  · subst he
    simp only [if_pos trivial]
    exact ⟨has_put_same (k := .int .i64 t) hm (by trivial) _, fun u hu z => by injection hu with hu; subst hu; exact atKey_put_same (k := .int .i64 t) hm (by trivial) _ _⟩
  · simp only [if_neg he]
    have hne : Lit.int .i64 t ≠ Lit.int .i64 s := fun e => he (by injection e)
    exact ⟨(has_put_other hne _).trans (h t).1, fun u hu z => (atKey_put_other hne _ _).trans ((h t).2 u hu z)⟩
theorem IM.put {W : World} {m n : Nat} {M : Int → Option Value} (h : IM W m n M) {T te : TypeId} (ht : Tryz.prog.underlying T = some (.map 3 te)) (s : Int) (hs : wfI s) (v : Value) (hn : n < maxLen) :
    ∃ w', (Instr.mapUpdate T (.map (some m)) (.int .i64 s) v).run Tryz.prog W = .ok () w' ∧ IM w' m (n + 1) (fun t => if t = s then some v else M t) ∧ W.grownBy w' (some m) := by
  obtain ⟨D, hD, hall⟩ := h.own
  obtain ⟨w', hrun, r1, r2⟩ := hD.update intKeyed ht hn (keyI hs) (val := v) (d := .held v) (ps := []) rfl
  exact ⟨w', hrun, ⟨_, r1, hall.put hD.isMap s v⟩, r2⟩

end Go.Proofs.YtdefaeieiaegaaaGreatDoor.IMp
namespace Go.Proofs.YtdefaeieiaegaaaGreatDoor.TxR2
open Go.RowKit Go.Maps
open ValM LexM NumM ExM NmM ShowM PrM Kit ExL ExP ExN RawV Within RawL GenL FldP FldR FldC FrmM PgM PgA ShT TxM TxR TxP TxT Prn TxQ SMp IMp
set_option linter.unusedVariables false
theorem joinN_snoc : ∀ (a : List (List UInt8)) (x : List UInt8), joinN (a ++ [x]) = if a = [] then x else joinN a ++ (10 :: x)
  | [], x => rfl
  | [b], x => rfl
  | b :: c :: r, x => by
    have ih := joinN_snoc (c :: r) x
    rw [if_neg (by simp)] at ih ⊢
    show b ++ (10 :: joinN ((c :: r) ++ [x])) = (b ++ (10 :: joinN (c :: r))) ++ (10 :: x)
    rw [ih]; simp
theorem joinN_ne {a : List (List UInt8)} (h : a ≠ []) (hn : ∀ x ∈ a, x ≠ []) : joinN a ≠ [] := by
  cases a with
  | nil => exact absurd rfl h
  | cons b r =>
    have hb := hn b (by simp)
    cases r with
    | nil => exact hb
    | cons c r =>
      intro e
      have e : b ++ (10 :: joinN (c :: r)) = [] := e
      simp at e
theorem commas_snoc : ∀ (a : List (List UInt8)) (x : List UInt8), commas (a ++ [x]) = if a = [] then x else commas a ++ ([44, 32] ++ x)
  | [], x => rfl
  | [b], x => rfl
  | b :: c :: r, x => by
    have ih := commas_snoc (c :: r) x
    rw [if_neg (by simp)] at ih ⊢
    show b ++ ([44, 32] ++ commas ((c :: r) ++ [x])) = (b ++ ([44, 32] ++ commas (c :: r))) ++ ([44, 32] ++ x)
    rw [ih]; simp
/-- What stands ahead of the k-th line. -/
def preN (L : List (List UInt8)) (k : Nat) : List UInt8 := if k = 0 then [] else joinN (L.take k) ++ [10]
theorem pre_step {L : List (List UInt8)} {k : Nat} {l : List UInt8} (hl : L[k]? = some l) : joinN (L.take (k + 1)) = preN L k ++ l := by
  obtain ⟨hk, rfl⟩ := List.getElem?_eq_some_iff.1 hl
  rw [List.take_succ_eq_append_getElem hk, joinN_snoc]
  unfold preN
  by_cases h : k = 0
  · subst h; simp
  · rw [if_neg (by intro e; have := congrArg List.length e; rw [List.length_take, List.length_nil] at this; omega), if_neg h]
    simp
theorem fl_ne (f : Fl) (h : FlOk f) : flL f ≠ [] := by
  intro e
  have h1 := congrArg List.length e
  unfold flL fieldL at h1
  obtain ⟨a, ea, _⟩ := kd_word h.k
  rw [ea] at h1
  simp at h1
theorem pl_ne (p : Pl × Bool) : plL p ≠ [] := by
  intro e
  have h1 := congrArg List.length e
  unfold plL pageL at h1
  simp at h1
def m3 (a b c : ByteArray) (s : Int) : Option Value := if s = 3 then some (.string c) else if s = 2 then some (.string b) else if s = 1 then some (.string a) else none
/-- The three entries are laid. -/
theorem three_map (W : World) (a b c : ByteArray) : ∃ w1 w2 w3, (Instr.mapUpdate 61 (.map (some W.heap.size)) (.int .i64 1) (.string a)).run Tryz.prog (W.alloc (.map #[] 0)) = .ok () w1 ∧ (Instr.mapUpdate 61 (.map (some W.heap.size)) (.int .i64 2) (.string b)).run Tryz.prog w1 = .ok () w2 ∧ (Instr.mapUpdate 61 (.map (some W.heap.size)) (.int .i64 3) (.string c)).run Tryz.prog w2 = .ok () w3 ∧
    IM w3 W.heap.size 3 (m3 a b c) ∧ Below W.heap.size W w3 := by
  obtain ⟨w1, r1, i1, g1⟩ := (IM.made W).put Tryz.underlying61 1 (wfI_of (by decide) (by decide)) (.string a) (by decide)
  obtain ⟨w2, r2, i2, g2⟩ := i1.put Tryz.underlying61 2 (wfI_of (by decide) (by decide)) (.string b) (by decide)
  obtain ⟨w3, r3, i3, g3⟩ := i2.put Tryz.underlying61 3 (wfI_of (by decide) (by decide)) (.string c) (by decide)
  refine ⟨w1, w2, w3, r1, r2, r3, i3.to (fun s => ?_), ?_⟩
  · unfold m3
    by_cases h3 : s = 3
    · simp [h3]
    · by_cases h2 : s = 2
      · simp [h2]
      · by_cases h1 : s = 1
        · simp [h1]
        · simp [h1, h2, h3]
  · have h1 : (W.alloc (.map #[] 0)).grownBy w3 (some W.heap.size) := (g1.andThen g2 fun j e => .inr e).andThen g3 fun j e => .inr e
    exact (b_new W _).grown h1 (by simp) (fun k e => by injection e with e; omega)
theorem look3 {w : World} {m : Nat} {a b c : ByteArray} (h : IM w m 3 (m3 a b c)) (k : Int) (hk : 1 ≤ k ∧ k ≤ 3) (K : ByteArray) (hK : m3 a b c k = some (.string K)) : (Instr.lookup 61 (.map (some m)) (.int .i64 k) false).run Tryz.prog w = .ok (.string K) w := by
  have := h.look1 Tryz.underlying61 (z := .string ⟨#[]⟩) (by kernel_rfl) k (wfI_of (by omega) (by omega))
  rw [hK] at this
  exact this
theorem kd_look {k : Int} (h : 1 ≤ k ∧ k ≤ 3) : m3 ⟨#[105, 110, 112, 117, 116, 32]⟩ ⟨#[102, 111, 114, 109, 117, 108, 97, 32]⟩ ⟨#[108, 111, 111, 107, 117, 112, 32]⟩ k = some (.string ⟨(kdW k).toArray⟩) := by rcases kt_cases h with rfl | rfl | rfl <;> rfl
theorem ty_look {k : Int} (h : 1 ≤ k ∧ k ≤ 3) : m3 ⟨#[32, 105, 110, 116]⟩ ⟨#[32, 98, 111, 111, 108]⟩ ⟨#[32, 116, 101, 120, 116]⟩ k = some (.string ⟨(tyW k).toArray⟩) := by rcases kt_cases h with rfl | rfl | rfl <;> rfl
theorem pre_len {w : World} {es : List FE} {ps : List PE} {X : Nat → Ex} (h : FormOk w es ps X) (k : Nat) (hk : k ≤ es.length + ps.length) : (preN (linesF (es.map flE) (ps.map plE)) k).length ≤ 130000 := by
  unfold preN
  split
  · exact Nat.zero_le _
  · have h1 := joinN_len ((linesF (es.map flE) (ps.map plE)).take k) 6300 (fun s hs => h.line s (List.mem_of_mem_take hs))
    have h2 := h.few
    rw [List.length_take] at h1
    rw [List.length_append]
    have h3 : min k (linesF (es.map flE) (ps.map plE)).length ≤ 20 := by omega
    have h4 : min k (linesF (es.map flE) (ps.map plE)).length * (6300 + 1) ≤ 20 * (6300 + 1) := Nat.mul_le_mul_right _ h3
    simp only [List.length_cons, List.length_nil]
    omega
theorem ne_str {s : ByteArray} {l : List UInt8} (h : s.data.toList = l) (hl : l ≠ []) : (!s.toList.isEmpty) = true := by
  rw [empty_n (fun e => hl (by rw [← h, e]))]; rfl
theorem no_str {s : ByteArray} (h : s.data.toList = []) : (!s.toList.isEmpty) = false := by
  rw [empty_t (bytes_eq h)]; rfl
/-- Whether a line feed is due. -/
theorem sep_cases {st : ByteArray} {L : List (List UInt8)} {k : Nat} (h : st.data.toList = joinN (L.take k)) (hne : ∀ x ∈ L, x ≠ []) (hk : k < L.length) (hps : (preN L k).length ≤ 130000) :
    ∃ b, (!st.toList.isEmpty) = b ∧ ((b = false → (!st.toList.isEmpty) = false ∧ st.data.toList = preN L k) ∧ (b = true → st.size ≤ 130000 ∧ st.data.toList ++ [10] = preN L k)) := by
  by_cases hz : k = 0
  · have hst0 : st.data.toList = [] := by rw [h, hz]; rfl
    refine ⟨false, no_str hst0, fun _ => ⟨no_str hst0, ?_⟩, fun e => by cases e⟩
    unfold preN
    rw [if_pos hz]; exact hst0
  · have hnil : st.data.toList ≠ [] := by
      rw [h]
      refine joinN_ne (fun e => ?_) (fun x hx => hne x (List.mem_of_mem_take hx))
      have := congrArg List.length e
      rw [List.length_take, List.length_nil] at this
      omega
    have hpe : st.data.toList ++ [10] = preN L k := by unfold preN; rw [if_neg hz, h]
    refine ⟨true, ne_str rfl hnil, fun e => (by cases e), fun _ => ⟨?_, hpe⟩⟩
    rw [← hpe, List.length_append] at hps
    show st.data.toList.length ≤ _
    omega
set_option maxRecDepth 100000 in
set_option maxHeartbeats 16000000 in
/-- P13.1: what FormFault tells is R. -/
theorem formText_any (es : List FE) (ps : List PE) (X : Nat → Ex) (FA : Option Addr) (fc : Nat) (PA : Option Addr) (pc : Nat) (R : Int) (w : World) (hfl : Flds w FA (es.map FE.fd)) (hpg : Pgs w PA ps) (hok : PgsOk w ps) (hn : es.length ≤ 1048576) (hpn : ps.length ≤ 1048576)
    (hR : R = 0 → FormOk w es ps X) (hC : ∀ V, Below w.heap.size w V → Calls Tryz.prog 28 #[.agg #[.slice FA es.length fc, .slice PA ps.length pc]] V fun e w' => e = .returned (.int .i64 R) ∧ Below V.heap.size V w') (hv : Show.Pow w) :
    Calls Tryz.prog 9 #[.agg #[.slice FA es.length fc, .slice PA ps.length pc]] w fun e w' => e = .returned (.tuple #[.string ⟨(if R = 0 then formL es ps else []).toArray⟩, .int .i64 R]) ∧ Below w.heap.size w w' := by
  obtain ⟨W1, hW1⟩ : ∃ V, w.alloc (frBox FA es.length fc PA ps.length pc) = V := ⟨_, rfl⟩
  obtain ⟨B1, hB1⟩ : ∃ B, w.heap.size = B := ⟨_, rfl⟩
  have hb1 := b_new w (frBox FA es.length fc PA ps.length pc)
  have hcell := fr_cells w FA es.length fc PA ps.length pc
  rw [hW1] at hb1 hcell
  rw [hB1] at hcell
  obtain ⟨x0, x1⟩ := hcell W1 (Below.refl _ _)
  have hmm := @run_makeMap Tryz.prog
  have HC := Lib.hid hC
  have HB := Lib.hid hb1
  have HCell := Lib.hid hcell
  have HW1 := Lib.hid hW1
  have HB1 := Lib.hid hB1
  have HR := Lib.hid hR
  have HF := Lib.hid hfl
  have HP := Lib.hid hpg
  have HOk := Lib.hid hok
  have HV := Lib.hid hv
  clear hC hb1 hcell hW1 hB1 hR hfl hpg hok hv
  unfold frBox at HW1
  by_cases h0 : R = 0
  · subst h0
    rw [if_pos rfl]
    have hform := HR.out rfl
    have hfew := hform.few
    obtain ⟨L, hL⟩ : ∃ L, linesF (es.map flE) (ps.map plE) = L := ⟨_, rfl⟩
    have hLl : L.length = es.length + ps.length := by rw [← hL]; unfold linesF; simp
    have hLf : ∀ (k : Nat) (h : k < es.length), L[k]? = some (flL (flE es[k])) := fun k h => by
      rw [← hL]; unfold linesF; rw [List.getElem?_append_left (by simpa using h), List.getElem?_map, List.getElem?_map, List.getElem?_eq_getElem h]; rfl
    have hLp : ∀ (k : Nat) (h : k < ps.length), L[es.length + k]? = some (plL (plE ps[k])) := fun k h => by
      rw [← hL]; unfold linesF; rw [List.getElem?_append_right (by simp)]
      simp [h]
    have hLne : ∀ x ∈ L, x ≠ [] := fun x hx => by
      rw [← hL] at hx
      unfold linesF at hx
      rcases List.mem_append.1 hx with hx | hx <;> obtain ⟨f, hf, rfl⟩ := List.mem_map.1 hx
      · exact fl_ne f (hform.fl.1 f hf)
      · exact pl_ne f
    have hpre := pre_len hform
    rw [hL] at hpre
    have hjoin : joinN L = formL es ps := by rw [← hL]; rfl
    have hex : ∀ (x : Ex) (d : Nd) (A : Option Addr) (n c : Nat) (V : World), x.checkE = 0 → Is V x d A n → Below w.heap.size w V → Calls Tryz.prog 29 #[.agg #[.int .i64 d.op, .int .i64 d.k, .int .i64 d.n, .string d.s, .string d.nm, .slice A n c]] V fun e w' => e = .returned (.string ⟨(Ex.txt x).toArray⟩) ∧ Below V.heap.size V w' := fun x d A n c V hx hi hV =>
      PrR.exprText_any x (checkE_zero hx).2.2 (checkE_zero hx).1 d A n c V hi (HV.out.below hV)
    have HForm := Lib.hid hform
    have HLl := Lib.hid hLl
    have HLf := Lib.hid hLf
    have HLp := Lib.hid hLp
    have HLne := Lib.hid hLne
    have HPre := Lib.hid hpre
    have HJoin := Lib.hid hjoin
    have HFew := Lib.hid hfew
    have HEx := Lib.hid hex
    clear hform hL hLl hLf hLp hLne hpre hjoin hfew hex HR
    obtain ⟨out, hout⟩ : ∃ out : ByteArray, out = ⟨(formL es ps).toArray⟩ := ⟨_, rfl⟩
    rw [← hout]
    have HOut := Lib.hid hout
    clear hout
    have hF' : ∀ V, Below w.heap.size w V → ∀ k (h : k < es.length), ∃ ad, FA = some ad ∧ FdAt V (ad.add (k * 9)) es[k].fd := fun V hV k hk => by
      obtain ⟨ad, e, hat⟩ := HF.out.below hV k (by rw [List.length_map]; exact hk)
      rw [List.getElem_map] at hat
      exact ⟨ad, e, hat⟩
    have HF' := Lib.hid hF'
    clear hF'
    go_enter Tryz.func9, Tryz.ntmps9
    go_upto_region 1 with fail
    rw [HW1.out, HB1.out]
    go_wp2_with fail
    refine (HC.out _ HB.out).mono ?_; rintro e w1 ⟨rfl, hb1⟩
    obtain ⟨c0, c1⟩ := HCell.out w1 hb1
    have HB2 := Lib.hid (b_trans HB.out hb1)
    have HBx := Lib.hid hb1
    clear hb1
    go_wp2_with fail
    go_loopw [5, 7, 20] (fun v _ ii wr => ∃ (k : Nat) (st : ByteArray), v = .string st ∧ ii = .int .i64 k ∧ k ≤ es.length ∧ st.data.toList = joinN (L.take k) ∧ Below w1.heap.size w1 wr) (fun _ _ ii _ => es.length - (intOf ii).toNat)
    case atStart => exact ⟨0, ⟨#[]⟩, rfl, rfl, Nat.zero_le _, rfl, Below.refl _ _⟩
    case round =>
      obtain ⟨k, st, rfl, rfl, hk, hst, hbw⟩ := hrel
      obtain ⟨wa, rfl⟩ : ∃ V, V = wr := ⟨_, rfl⟩
      by_cases hlt : k < es.length
      · have hkL : k < L.length := by have := HLl.out; omega
        obtain ⟨ad, rfl, hat⟩ := HF'.out wa (b_trans HB2.out hbw) k hlt
        have hpass := fl_pass HForm.out k hlt
        have hisx := (HForm.out.fi k hlt).below (b_trans HB2.out hbw)
        have hlk := HLf.out k hlt
        obtain ⟨f, hfk⟩ : ∃ f, es[k] = f := ⟨_, rfl⟩
        rw [hfk] at hat hpass hisx hlk
        have hstp := pre_step hlk
        obtain ⟨q0, q1, q2, q3, q4, q5, q6, q7, q8⟩ := hat
        unfold FE.fd at q0 q1 q2 q3 q4 q5 q6 q7 q8
        simp only at q0 q1 q2 q3 q4 q5 q6 q7 q8
        obtain ⟨W5, hW5⟩ : ∃ V, wa.alloc (fdBox f.fd) = V := ⟨_, rfl⟩
        obtain ⟨B9, hB9⟩ : ∃ B, wa.heap.size = B := ⟨_, rfl⟩
        have hb5 := b_new wa (fdBox f.fd)
        have hcl := fd_nine wa f.fd
        rw [hW5, hB9] at hcl
        rw [hW5] at hb5
        unfold FE.fd at hcl
        simp only at hcl
        obtain ⟨z0, z1, z2, z3, z4, z5, z6, z7, z8⟩ := hcl W5 (Below.refl _ _)
        have hps := HPre.out k (by omega)
        have HSt := Lib.hid hst
        have HCl := Lib.hid hcl
        have HPass := Lib.hid hpass
        have HIs := Lib.hid (hisx.below hb5)
        have HW5 := Lib.hid hW5
        have HB9 := Lib.hid hB9
        have HB5 := Lib.hid (b_trans hbw hb5)
        have HStp := Lib.hid hstp
        have HPs := Lib.hid hps
        have HKL := Lib.hid hkL
        clear hlk hst hcl hpass hisx hW5 hB9 hb5 hbw hfk hstp hps hkL
        unfold fdBox FE.fd at HW5
        obtain ⟨bz, hbz, hbz2⟩ := sep_cases HSt.out HLne.out (by have := HKL.out; omega) HPs.out
        have HBz := Lib.hid hbz2
        clear hbz2
        go_upto_region 8 with fail
        rw [HW5.out, HB9.out]
        go_upto_if 25 with fail
        go_cut [5] (fun v5 wx => ∃ st2 : ByteArray, v5 = .string st2 ∧ st2.data.toList = preN L k ∧ wx = W5)
        case first =>
          cases bz with
          | false =>
            go_wp2_with fail
            go_meet
            exact ⟨st, rfl, (HBz.out.1 (by first | rfl | trivial)).2, rfl⟩
          | true =>
            have hpe := (HBz.out.2 rfl).2
            have hsz := (HBz.out.2 rfl).1
            have s0 := adds st ⟨#[10]⟩ (by omega) (by decide)
            have HPe := Lib.hid hpe
            clear hpe
            go_wp2_with fail
            go_meet
            exact ⟨_, rfl, by rw [← HPe.out]; simp, rfl⟩
        case rest =>
          obtain ⟨st2, rfl, hs2, hwc⟩ := hcut
          subst hwc
          have hsz : st2.size ≤ 130000 := by show st2.data.toList.length ≤ _; rw [hs2]; exact HPs.out
          have hns : f.nm.size ≤ 10 := (nmB_parts HPass.out.1.nm).2.1
          obtain ⟨v1, v2, v3, e1, e2, e3, im1, hbm1⟩ := three_map wc ⟨#[105, 110, 112, 117, 116, 32]⟩ ⟨#[102, 111, 114, 109, 117, 108, 97, 32]⟩ ⟨#[108, 111, 111, 107, 117, 112, 32]⟩
          obtain ⟨v4, v5, v6, e4, e5, e6, im2, hbm2⟩ := three_map v3 ⟨#[32, 105, 110, 116]⟩ ⟨#[32, 98, 111, 111, 108]⟩ ⟨#[32, 116, 101, 120, 116]⟩
          obtain ⟨K, hK⟩ : ∃ K : ByteArray, ByteArray.mk (kdW f.kind).toArray = K := ⟨_, rfl⟩
          obtain ⟨T, hT⟩ : ∃ K : ByteArray, ByteArray.mk (tyW f.ty).toArray = K := ⟨_, rfl⟩
          have lk1 := look3 im1 f.kind HPass.out.1.k K (by rw [← hK]; exact kd_look HPass.out.1.k)
          have lk2 := look3 im2 f.ty HPass.out.1.t T (by rw [← hT]; exact ty_look HPass.out.1.t)
          have hKl : K.data.toList = kdW f.kind := by rw [← hK]
          have hTl : T.data.toList = tyW f.ty := by rw [← hT]
          have hKs : K.size ≤ 8 := by show K.data.toList.length ≤ _; rw [hKl]; exact kd_len _
          have hTs : T.size ≤ 5 := by show T.data.toList.length ≤ _; rw [hTl]; exact ty_len _
          obtain ⟨a0, a1, a2, a3, a4, a5, a6, a7, a8⟩ := HCl.out v3 hbm1
          have hb36 := b_trans hbm1 hbm2
          obtain ⟨b0, b1, b2, b3, b4, b5, b6, b7, b8⟩ := HCl.out v6 hb36
          have hb56 := b_trans HB5.out hb36
          have HIs6 := Lib.hid (HIs.out.below hb36)
          have hline : ∀ u : List UInt8, u = st2.data.toList ++ (K.data.toList ++ (f.nm.data.toList ++ (T.data.toList ++ (if 1 < f.kind then eqW ++ Ex.txt f.x else [])))) → u = joinN (L.take (k + 1)) := fun u hu => by
            rw [hu, HStp.out, hs2, hKl, hTl]
            rfl
          have hb16 := b_trans HB2.out hb56
          have HLine := Lib.hid hline
          have HB56 := Lib.hid hb56
          have HB16 := Lib.hid hb16
          have HT := Lib.hid hTl
          have s1 := adds K f.nm (by omega) (by omega)
          have s2 := adds (K ++ f.nm) T (by rw [ByteArray.size_append]; omega) (by omega)
          have s3 := adds st2 (K ++ f.nm ++ T) (by omega) (by rw [ByteArray.size_append, ByteArray.size_append]; omega)
          clear hs2 hK hT hKl hTl im1 im2 hbm1 hbm2 hb36 hb56 hline hb16 HCl HIs
          by_cases hk1 : 1 < f.kind
          · have hck := HPass.out.2 hk1
            have hex := HEx.out f.x f.x.d f.B f.m f.c v6 hck HIs6.out HB16.out
            obtain ⟨t, htx⟩ : ∃ t : ByteArray, ByteArray.mk (Ex.txt f.x).toArray = t := ⟨_, rfl⟩
            rw [htx] at hex
            have htl : t.data.toList = Ex.txt f.x := by rw [← htx]
            have hts : t.size ≤ 6000 := by show t.data.toList.length ≤ _; rw [htl]; exact txt_le hck
            have s4 := adds ⟨#[32, 61, 32]⟩ t (by decide) (by omega)
            have s5 := adds (st2 ++ (K ++ f.nm ++ T)) (⟨#[32, 61, 32]⟩ ++ t) (by rw [ByteArray.size_append, ByteArray.size_append, ByteArray.size_append]; omega) (by rw [ByteArray.size_append]; show 3 + _ ≤ _; omega)
            have HE := Lib.hid hex
            have HTx := Lib.hid htl
            have HK1 := Lib.hid hk1
            clear hck hex htx htl
            go_wp2_with fail
            refine HE.out.mono ?_; rintro e v7 ⟨rfl, hb7⟩
            have HB7 := Lib.hid (b_trans HB56.out hb7)
            clear hb7
            go_wp2_with fail
            go_roundw
            case rel => exact ⟨k + 1, _, rfl, by go_num, by omega, HLine.out _ (by rw [if_pos HK1.out]; simp [HTx.out]), HB7.out⟩
            case measure => simp [intOf]; omega
          · have HK1 := Lib.hid hk1
            go_wp2_with fail
            go_roundw
            case rel => exact ⟨k + 1, _, rfl, by go_num, by omega, HLine.out _ (by rw [if_neg HK1.out]; simp), HB56.out⟩
            case measure => simp [intOf]; omega
      · have hke : k = es.length := by omega
        subst hke
        obtain ⟨c0, c1⟩ := HCell.out wa (b_trans HBx.out hbw)
        have HSt0 := Lib.hid hst
        have HBw0 := Lib.hid hbw
        clear hst hbw hlt
        go_wp2_with fail
        go_loopw [5, 9, 10, 11, 57] (fun v _ _ _ ii wr => ∃ (k : Nat) (st : ByteArray), v = .string st ∧ ii = .int .i64 k ∧ k ≤ ps.length ∧ st.data.toList = joinN (L.take (es.length + k)) ∧ Below w1.heap.size w1 wr) (fun _ _ _ _ ii _ => ps.length - (intOf ii).toNat)
        case atStart => exact ⟨0, st, rfl, rfl, Nat.zero_le _, HSt0.out, HBw0.out⟩
        case round =>
          obtain ⟨k, st, rfl, rfl, hk, hst, hbw⟩ := hrel
          obtain ⟨wb, rfl⟩ : ∃ V, V = wr := ⟨_, rfl⟩
          by_cases hlt : k < ps.length
          · have hkL : es.length + k < L.length := by have := HLl.out; omega
            obtain ⟨ad, rfl, hat⟩ := HP.out.below (b_trans HB2.out hbw) k hlt
            have hpass := pl_pass HForm.out k hlt
            have hfew := pl_few HForm.out k hlt
            have hisx := (HForm.out.pi k hlt).below (b_trans HB2.out hbw)
            have hrow := ((HOk.out _ (List.getElem_mem hlt)).row).below (b_trans HB2.out hbw)
            have hlk := HLp.out k hlt
            obtain ⟨f, hfk⟩ : ∃ f, ps[k] = f := ⟨_, rfl⟩
            rw [hfk] at hat hpass hisx hlk hfew hrow
            have hstp := pre_step hlk
            obtain ⟨q0, q1, q2, q3, q4, q5, q6, q7⟩ := hat
            obtain ⟨W5, hW5⟩ : ∃ V, wb.alloc (pgBox f) = V := ⟨_, rfl⟩
            obtain ⟨B9, hB9⟩ : ∃ B, wb.heap.size = B := ⟨_, rfl⟩
            have hb5 := b_new wb (pgBox f)
            have hcl := pg_cells wb f
            rw [hW5, hB9] at hcl
            rw [hW5] at hb5
            obtain ⟨z0, z1, z2, z3, z4, z5, z6, z7⟩ := hcl W5 (Below.refl _ _)
            obtain ⟨K, hKe⟩ : ∃ K, es.length + k = K := ⟨_, rfl⟩
            rw [hKe] at hst hkL hstp
            have hps := HPre.out K (by omega)
            have HSt := Lib.hid hst
            have HCl := Lib.hid hcl
            have HPass := Lib.hid hpass
            have HFw := Lib.hid hfew
            have HIs := Lib.hid (hisx.below hb5)
            have HRow := Lib.hid (hrow.below hb5)
            have HW5 := Lib.hid hW5
            have HB9 := Lib.hid hB9
            have HB5 := Lib.hid (b_trans hbw hb5)
            have HStp := Lib.hid hstp
            have HPs := Lib.hid hps
            have HKe := Lib.hid hKe
            have HBl := Lib.hid hbw
            obtain ⟨bz, hbz, hbz2⟩ := sep_cases hst HLne.out hkL hps
            have HBz := Lib.hid hbz2
            clear hlk hst hcl hpass hisx hW5 hB9 hb5 hbw hfk hstp hps hfew hrow hkL hKe hbz2
            unfold pgBox at HW5
            go_upto_region 17 with fail
            rw [HW5.out, HB9.out]
            go_upto_if 62 with fail
            go_cut [5] (fun v5 wx => ∃ st2 : ByteArray, v5 = .string st2 ∧ st2.data.toList = preN L K ∧ wx = W5)
            case first =>
              cases bz with
              | false =>
                go_wp2_with fail
                go_meet
                exact ⟨st, rfl, (HBz.out.1 (by first | rfl | trivial)).2, rfl⟩
              | true =>
                have hpe := (HBz.out.2 rfl).2
                have hsz := (HBz.out.2 rfl).1
                have s0 := adds st ⟨#[10]⟩ (by omega) (by decide)
                have HPe := Lib.hid hpe
                clear hpe
                go_wp2_with fail
                go_meet
                exact ⟨_, rfl, by rw [← HPe.out]; simp, rfl⟩
            case rest =>
              obtain ⟨st2, rfl, hs2, hwc⟩ := hcut
              subst hwc
              have hsz : st2.size ≤ 130000 := by show st2.data.toList.length ≤ _; rw [hs2]; exact HPs.out
              have hns : f.nm.size ≤ 10 := (nmB_parts HPass.out.1.nm).2.1
              have s1 := adds ⟨#[112, 97, 103, 101, 32]⟩ f.nm (by decide) (by omega)
              have s2 := adds (⟨#[112, 97, 103, 101, 32]⟩ ++ f.nm) ⟨#[58, 32]⟩ (by rw [ByteArray.size_append]; show 5 + _ ≤ _; omega) (by decide)
              have s3 := adds st2 (⟨#[112, 97, 103, 101, 32]⟩ ++ f.nm ++ ⟨#[58, 32]⟩) (by omega) (by rw [ByteArray.size_append, ByteArray.size_append]; show 5 + _ + 2 ≤ _; omega)
              obtain ⟨base, hbase⟩ : ∃ b : ByteArray, st2 ++ (⟨#[112, 97, 103, 101, 32]⟩ ++ f.nm ++ ⟨#[58, 32]⟩) = b := ⟨_, rfl⟩
              have hbl : base.data.toList = preN L K ++ (pgW ++ (f.nm.data.toList ++ coW)) := by rw [← hbase, ← hs2]; simp
              have hbs : base.size ≤ 130100 := by rw [← hbase, ByteArray.size_append, ByteArray.size_append, ByteArray.size_append]; show _ + (5 + _ + 2) ≤ _; omega
              obtain ⟨N, hN⟩ : ∃ N : List (List UInt8), (f.fs.map fun t => t.data.toList) = N := ⟨_, rfl⟩
              have hNl : N.length = f.fs.length := by rw [← hN, List.length_map]
              have hcm : ∀ j, j ≤ f.fs.length → (commas (N.take j)).length ≤ 200 := fun j hj => by
                have h1 := commas_len (N.take j) 10 (fun s hs => by
                  have h2 := List.mem_of_mem_take hs
                  rw [← hN] at h2
                  exact (nmB_parts (HPass.out.1.fs s h2)).2.1)
                have h2 := HFw.out
                rw [List.length_take] at h1
                have h3 : min j N.length ≤ 14 := by omega
                have h4 : min j N.length * (10 + 2) ≤ 14 * (10 + 2) := Nat.mul_le_mul_right _ h3
                omega
              have hbare := fun V (_ : Below wc.heap.size wc V) => FldR.refBare_any f.x.d f.B f.m f.c V
              have HBl2 := Lib.hid hbl
              have HBase := Lib.hid hbase
              have HN := Lib.hid hN
              have HNl := Lib.hid hNl
              have HCm := Lib.hid hcm
              have HBare := Lib.hid hbare
              clear hs2 hbl hN hNl hcm hbare hbz hbase
              generalize hfl : f.fs.length = fl at *
              have HFl := Lib.hid hfl
              clear hfl
              go_wp2_with fail
              rw [HBase.out]
              go_loop [5, 10, 11, 74] (fun v _ _ ii => ∃ (j : Nat) (st3 : ByteArray), v = .string st3 ∧ ii = .int .i64 j ∧ j ≤ fl ∧ st3.data.toList = base.data.toList ++ commas (N.take j)) (fun _ _ _ ii => fl - (intOf ii).toNat)
              case atStart => exact ⟨0, base, rfl, rfl, Nat.zero_le _, by simp [commas]⟩
              case round =>
                obtain ⟨j, st3, rfl, rfl, hj, hs3⟩ := hrel
                have hfl14 : fl ≤ 14 := by have := HFw.out; have := HFl.out; omega
                have hs3s : st3.size ≤ 130300 := by
                  have h1 := HCm.out j (by have := HFl.out; omega)
                  show st3.data.toList.length ≤ _
                  rw [hs3, List.length_append]
                  have h2 : base.data.toList.length ≤ 130100 := hbs
                  omega
                by_cases hjl : j < fl
                · have hjl2 : j < f.fs.length := by have := HFl.out; omega
                  obtain ⟨a, ea, hca⟩ := HRow.out j hjl2
                  have htn : f.fs[j].size ≤ 10 := (nmB_parts (HPass.out.1.fs f.fs[j].data.toList (List.mem_map.2 ⟨f.fs[j], List.getElem_mem hjl2, rfl⟩))).2.1
                  have hNj : N[j]? = some f.fs[j].data.toList := by rw [← HN.out, List.getElem?_map, List.getElem?_eq_getElem hjl2]; rfl
                  obtain ⟨t, htt⟩ : ∃ t, f.fs[j] = t := ⟨_, rfl⟩
                  rw [htt] at hca htn hNj
                  have hcom : commas (N.take (j + 1)) = if j = 0 then t.data.toList else commas (N.take j) ++ ([44, 32] ++ t.data.toList) := by
                    obtain ⟨hlt9, he9⟩ := List.getElem?_eq_some_iff.1 hNj
                    rw [List.take_succ_eq_append_getElem hlt9, he9, commas_snoc]
                    by_cases hz : j = 0
                    · subst hz; simp
                    · rw [if_neg (by intro e; have := congrArg List.length e; rw [List.length_take, List.length_nil] at this; omega), if_neg hz]
                  have HS3 := Lib.hid hs3
                  have HCom := Lib.hid hcom
                  clear hs3 hcom hNj htt
                  by_cases hz : j = 0
                  · have tz : ¬ (0 : Int) < (j : Int) := by omega
                    have u1 := adds st3 t (by omega) (by omega)
                    have HZ := Lib.hid hz
                    clear hz
                    go_wp2_with fail
                    go_round
                    case rel => exact ⟨j + 1, _, rfl, by go_num, by omega, by rw [HCom.out, if_pos HZ.out]; simp [HS3.out, HZ.out, commas]⟩
                    case measure => simp [intOf]; omega
                  · have tz : (0 : Int) < (j : Int) := by omega
                    have u0 := adds st3 ⟨#[44, 32]⟩ (by omega) (by decide)
                    have u1 := adds (st3 ++ ⟨#[44, 32]⟩) t (by rw [ByteArray.size_append]; show _ + 2 ≤ _; omega) (by omega)
                    have HZ := Lib.hid hz
                    clear hz
                    go_wp2_with fail
                    go_round
                    case rel => exact ⟨j + 1, _, rfl, by go_num, by omega, by rw [HCom.out, if_neg HZ.out]; simp [HS3.out]⟩
                    case measure => simp [intOf]; omega
                · have hjn : (N.take j) = N := List.take_of_length_le (by have := HNl.out; have := HFl.out; omega)
                  rw [hjn] at hs3
                  have hline : ∀ u : List UInt8, u = st3.data.toList ++ skL (if (!bareB f.x.d f.m) = true then some (Ex.txt f.x) else none) → u = joinN (L.take (K + 1)) := fun u hu => by
                    rw [hu, HStp.out, hs3, HBl2.out]
                    show _ = preN L K ++ pageL f.nm.data.toList (f.fs.map fun s => s.data.toList) (if (!bareB f.x.d f.m) = true then some (Ex.txt f.x) else none)
                    rw [HN.out]
                    unfold pageL
                    simp only [List.append_assoc]
                  obtain ⟨b, hb⟩ : ∃ b, bareB f.x.d f.m = b := ⟨_, rfl⟩
                  rw [hb] at hline
                  have hbare := HBare.out wc (Below.refl _ _)
                  rw [hb] at hbare
                  have hkk : es.length + (k + 1) = K + 1 := by have := HKe.out; omega
                  have hck : b ≠ true → f.x.checkE = 0 := fun h => HPass.out.2 (by rw [hb]; exact h)
                  have HLine := Lib.hid hline
                  have HBa := Lib.hid hbare
                  have HKk := Lib.hid hkk
                  have HCk := Lib.hid hck
                  clear hs3 hline hbare hkk hck hb hjn
                  go_wp2_with fail
                  refine HBa.out.mono ?_; rintro e w6 ⟨rfl, hb6⟩
                  obtain ⟨y0, y1, y2, y3, y4, y5, y6, y7⟩ := HCl.out w6 hb6
                  have HB6 := Lib.hid (b_trans HB5.out hb6)
                  have hisx6 := HIs.out.below hb6
                  have HIs6 := Lib.hid hisx6
                  clear hb6 hisx6
                  cases b with
                  | true =>
                    go_wp2_with fail
                    go_roundw
                    case rel => exact ⟨k + 1, _, rfl, by go_num, by omega, by rw [HKk.out]; exact HLine.out _ (by simp [skL]), HB6.out⟩
                    case measure => simp [intOf]; omega
                  | false =>
                    have hc0 := HCk.out (by decide)
                    have hex := HEx.out f.x f.x.d f.B f.m f.c w6 hc0 HIs6.out (b_trans HB2.out HB6.out)
                    obtain ⟨t, htx⟩ : ∃ t : ByteArray, ByteArray.mk (Ex.txt f.x).toArray = t := ⟨_, rfl⟩
                    rw [htx] at hex
                    have htl : t.data.toList = Ex.txt f.x := by rw [← htx]
                    have hts : t.size ≤ 6000 := by show t.data.toList.length ≤ _; rw [htl]; exact txt_le hc0
                    have u4 := adds ⟨#[59, 32]⟩ t (by decide) (by omega)
                    have u5 := adds st3 (⟨#[59, 32]⟩ ++ t) (by omega) (by rw [ByteArray.size_append]; show 2 + _ ≤ _; omega)
                    have HE := Lib.hid hex
                    have HTx := Lib.hid htl
                    clear hc0 hex htx htl
                    go_wp2_with fail
                    refine HE.out.mono ?_; rintro e w7 ⟨rfl, hb7⟩
                    have HB7 := Lib.hid (b_trans HB6.out hb7)
                    clear hb7
                    go_wp2_with fail
                    go_roundw
                    case rel => exact ⟨k + 1, _, rfl, by go_num, by omega, by rw [HKk.out]; exact HLine.out _ (by simp [HTx.out, skL]), HB7.out⟩
                    case measure => simp [intOf]; omega
          · have hkp : k = ps.length := by omega
            subst hkp
            have hst2 : st = out := by
              refine bytes_eq ?_
              rw [hst, HOut.out, List.take_of_length_le (by have := HLl.out; omega), HJoin.out]
            have HSt := Lib.hid hst2
            have HBw := Lib.hid (b_trans HB2.out hbw)
            clear hst hbw hst2 hlt
            go_wp2_with fail
            go_ret2
            exact ⟨by rw [← HSt.out]; rfl, HBw.out⟩
  · rw [if_neg h0]
    have t1 : (R != 0) = true := bne_iff_ne.2 h0
    clear h0 HR
    go_enter Tryz.func9, Tryz.ntmps9
    go_upto_region 1 with fail
    rw [HW1.out, HB1.out]
    go_wp2_with fail
    refine (HC.out _ HB.out).mono ?_; rintro e w1 ⟨rfl, hb1⟩
    have HB2 := Lib.hid (b_trans HB.out hb1)
    clear hb1
    go_wp2_with fail
    go_ret2
    exact ⟨rfl, HB2.out⟩
end Go.Proofs.YtdefaeieiaegaaaGreatDoor.TxR2
