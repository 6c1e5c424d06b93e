/- Package rank: for each field the places of the fields that it needs. -/
import Derived.Test.YthgcmficmodhiaaGreatDoorRkC
import Derived.Test.YthgcmficmodhiaaGreatDoorNmTop
import Derived.Test.YthgcmficmodhiaaGreatDoorFldCheck
import Derived.Test.YthgcmficmodhiaaGreatDoorFldRight
import Derived.Deep.AppendLies
namespace Go.Proofs.YthgcmficmodhiaaGreatDoor.RkD
open Go.RowKit
open ValM LexM NumM ExM NmM Kit ExL ExP ExN ExC RawV Within RawL GenL FldP FldR FldC NmO NmA NmI NmT NmR RkM RkA RkB RkC
set_option linter.unusedVariables false

/-- The place that Find tells of a name. -/
def plN (fs : List GenL.Fd) (s : ByteArray) : Nat := if atF fs s < fs.length then atF fs s else 0
def needF (fs : List GenL.Fd) (X : Nat → Ex) (k : Nat) : List Nat :=
  if h : k < fs.length then (if fs[k].kind = 1 then [] else (mkL (ofL (X k))).map (plN fs)) else []
def needsF (fs : List GenL.Fd) (X : Nat → Ex) : List (List Nat) := (List.range fs.length).map (needF fs X)
theorem needsF_len (fs : List GenL.Fd) (X : Nat → Ex) : (needsF fs X).length = fs.length := by unfold needsF; simp
theorem needsF_nd (fs : List GenL.Fd) (X : Nat → Ex) (k : Nat) (h : k < fs.length) : nd (needsF fs X) k = needF fs X k := by
  unfold nd needsF
  rw [List.getD_eq_getElem?_getD, List.getElem?_map, List.getElem?_range h]; rfl
theorem ofL_len (x : Ex) : (ofL x).length ≤ 60 := by
  unfold ofL
  by_cases h : x.checkE = 0
  · rw [if_pos h]
    have h1 := rise_len (bytesL (Ex.refs x))
    have h2 := refs_len x
    have h3 := (checkE_zero h).1
    have h4 : (bytesL (Ex.refs x)).length = (Ex.refs x).length := List.length_map _
    omega
  · rw [if_neg h]; simp
theorem plN_lt (fs : List GenL.Fd) (s : ByteArray) (h : 0 < fs.length) : plN fs s < fs.length := by unfold plN; split <;> omega
theorem needsF_ok (fs : List GenL.Fd) (X : Nat → Ex) (h : fs.length ≤ 14) : Okn (needsF fs X) := by
  refine ⟨by rw [needsF_len]; exact h, fun i hi => ?_⟩
  rw [needsF_len] at hi ⊢
  rw [needsF_nd _ _ _ hi]
  unfold needF
  rw [dif_pos hi]
  split
  · exact ⟨by simp, fun j hj => by simp at hj⟩
  · refine ⟨?_, fun j hj => ?_⟩
    · rw [List.length_map, mkL_len]; have := ofL_len (X i); omega
    · obtain ⟨s, _, rfl⟩ := List.mem_map.1 hj
      exact plN_lt fs s (by omega)
def nV (L : List Nat) : List Value := L.map fun (j : Nat) => Value.int .i64 (j : Int)
theorem nV_len (L : List Nat) : (nV L).length = L.length := List.length_map _
theorem nV_snoc (L : List Nat) (j : Nat) : nV (L ++ [j]) = nV L ++ [.int .i64 (j : Int)] := by unfold nV; rw [List.map_append]; rfl
/-- A row of places in blocks of P. -/
def NtP (P : Nat → Prop) (w : World) (A : Option Addr) (L : List Nat) : Prop := ∀ (j : Nat) (h : j < L.length), ∃ g, A = some ⟨g, 0, none⟩ ∧ P g ∧ w.cell? ⟨g, j, none⟩ = some (.int .i64 (L[j] : Int))
theorem NtP.row {P : Nat → Prop} {w : World} {A : Option Addr} {L : List Nat} (h : NtP P w A L) : NtRow w A L := fun j hj => by
  obtain ⟨g, e, _, hc⟩ := h j hj
  exact ⟨g, e, hc⟩
theorem NtP.keep {P Q : Nat → Prop} {w w' : World} {A : Option Addr} {L : List Nat} (h : NtP P w A L) (hk : ∀ b, P b → b < w.heap.size → w'.heap[b]? = w.heap[b]?) (hq : ∀ b, P b → b < w.heap.size → Q b) : NtP Q w' A L := fun j hj => by
  obtain ⟨g, e, hp, hc⟩ := h j hj
  have hl : g < w.heap.size := World.block_lt_of_cell? w _ hc
  exact ⟨g, e, hq _ hp hl, (World.cell?_of_block (a := ⟨g, j, none⟩) (hk _ hp hl)).trans hc⟩
theorem NtP.of_own {w : World} {base : Nat} {v : Value} {L : List Nat} (h : w.ownsRow base 3 1 v L.length (nV L)) : ∃ A c, v = .slice A L.length c ∧ NtP (fun b => base ≤ b) w A L := by
  rcases h.2 with ⟨h1, h2⟩ | ⟨g, cap, cur, h1, hb, _⟩
  · exact ⟨none, 0, by rw [h1, h2], fun j hj => by omega⟩
  · subst h1
    refine ⟨some ⟨g, 0, none⟩, cap, rfl, fun j hj => ⟨g, rfl, hb, ?_⟩⟩
    rw [h.cellAt j (by omega), List.getElem?_eq_getElem (by rw [nV_len]; exact hj)]
    unfold nV; rw [List.getElem_map]
def nilS : Value := .slice none 0 0
structure DI (w : World) (ns : List (List Nat)) (k : Nat) (dn : List Nat) (v : Value) (C : List Value) (wr : World) : Prop where
  row : wr.ownsRow w.heap.size 23 1 (.slice (some ⟨w.heap.size, 0, none⟩) ns.length ns.length) ns.length C
  cur : k < ns.length → C[k]? = some v
  own : wr.ownsRow (w.heap.size + 1) 3 1 v dn.length (nV dn)
  fin : ∀ i, i < k → ∃ A c, C[i]? = some (.slice A (nd ns i).length c) ∧ NtP (fun b => w.heap.size < b ∧ some b ≠ v.ownBlock) wr A (nd ns i)
  rest : ∀ i, k < i → i < ns.length → C[i]? = some nilS
  below : Below w.heap.size w wr
theorem DI.keep {w : World} {ns : List (List Nat)} {k : Nat} {dn : List Nat} {v : Value} {C : List Value} {wr w' : World} (h : DI w ns k dn v C wr) (hb : Below wr.heap.size wr w') : DI w ns k dn v C w' :=
  ⟨GenL.own_below h.row hb, h.cur, GenL.own_below h.own hb, fun i hi => by
    obtain ⟨A, c, e, hn⟩ := h.fin i hi
    exact ⟨A, c, e, hn.keep (fun b _ hl => hb.block b hl) (fun b hp _ => hp)⟩, h.rest, h.below.trans (hb.mono h.below.size)⟩
theorem DI.next {w : World} {ns : List (List Nat)} {k : Nat} {v : Value} {C : List Value} {wr : World} (h : DI w ns k (nd ns k) v C wr) (hk : k < ns.length) : DI w ns (k + 1) [] nilS C wr := by
  refine ⟨h.row, fun hk1 => h.rest (k + 1) (by omega) hk1, World.ownsRow_nil _ _ _ _, fun i hi => ?_, fun i hi1 hi2 => h.rest i (by omega) hi2, h.below⟩
  by_cases e : i = k
  · subst e
    obtain ⟨A, c, e1, hn⟩ := NtP.of_own h.own
    exact ⟨A, c, by rw [h.cur hk, e1], hn.keep (fun _ _ _ => rfl) (fun b hb _ => ⟨by omega, by simp [nilS, Value.ownBlock]⟩)⟩
  · obtain ⟨A, c, e1, hn⟩ := h.fin i (by omega)
    exact ⟨A, c, e1, hn.keep (fun _ _ _ => rfl) (fun b hb _ => ⟨hb.1, by simp [nilS, Value.ownBlock]⟩)⟩
theorem DI.done {w : World} {ns : List (List Nat)} {C : List Value} {wr : World} (h : DI w ns ns.length [] nilS C wr) : NsRow wr (some ⟨w.heap.size, 0, none⟩) ns := fun i hi => by
  obtain ⟨A, c, e, hn⟩ := h.fin i hi
  exact ⟨w.heap.size, rfl, A, c, by rw [h.row.cellAt i (by omega), e], hn.row⟩
theorem DI.step {w : World} {ns : List (List Nat)} {k : Nat} {dn : List Nat} {v : Value} {C : List Value} {wr w6 : World} {j gg cap : Nat} {tmp : Obj} (h : DI w ns k dn v C wr) (hk : k < ns.length)
    (hown6 : w6.ownsRow (w.heap.size + 1) 3 1 (.slice (some ⟨gg, 0, none⟩) (dn.length + 1) cap) (dn.length + 1) (nV dn ++ [.int .i64 (j : Int)])) (hgrow6 : (wr.alloc tmp).grownBy w6 v.ownBlock) (hat6 : v.ownBlock = some gg ∨ gg = wr.heap.size + 1) :
    DI w ns k (dn ++ [j]) (.slice (some ⟨gg, 0, none⟩) (dn.length + 1) cap) (C.set k (.slice (some ⟨gg, 0, none⟩) (dn.length + 1) cap)) (w6.setCell ⟨w.heap.size, k, none⟩ (.slice (some ⟨gg, 0, none⟩) (dn.length + 1) cap)) := by
  have hgg : w.heap.size + 1 ≤ gg := (hown6.lt gg rfl).1
  have hge : Value.ownBlock (.slice (some ⟨gg, 0, none⟩) (dn.length + 1) cap) = some gg := rfl
  have hwl : w.heap.size < wr.heap.size := (h.row.lt _ rfl).2
  have hne0 : some w.heap.size ≠ v.ownBlock := fun e => by have := (h.own.lt _ e.symm).1; omega
  have hrow6 : w6.ownsRow w.heap.size 23 1 (.slice (some ⟨w.heap.size, 0, none⟩) ns.length ns.length) ns.length C := (h.row.alloc tmp).kept hgrow6 (.inr hne0)
  have f0 : ∀ b, b < wr.heap.size → b ≠ w.heap.size → some b ≠ v.ownBlock → (w6.setCell ⟨w.heap.size, k, none⟩ (.slice (some ⟨gg, 0, none⟩) (dn.length + 1) cap)).heap[b]? = wr.heap[b]? := fun b hl h1 h2 =>
    (Below.heap_setCell w6 ⟨w.heap.size, k, none⟩ _ b h1).trans (NmR.app_keep hgrow6 hl h2)
  have hCl : C.length = ns.length := by have := h.row.1; omega
  refine ⟨(hrow6.stored k _).1, fun _ => by rw [List.getElem?_set_self (by omega)], ?_, fun i hi => ?_, fun i hi1 hi2 => ?_, ?_⟩
  · rw [List.length_append, nV_snoc]
    refine World.ownsRow.kept (row := some w.heap.size) hown6 (hrow6.stored k _).2 (.inr ?_)
    rw [hge]; intro e; injection e with e; omega
  · obtain ⟨A, c, e, hn⟩ := h.fin i hi
    refine ⟨A, c, by rw [List.getElem?_set_ne (by omega)]; exact e, hn.keep (fun b hb hl => f0 b hl (by omega) hb.2) (fun b hb hl => ⟨hb.1, ?_⟩)⟩
    rw [hge]; intro e; injection e with e
    rcases hat6 with g | g
    · exact hb.2 (by rw [g, e])
    · omega
  · rw [List.getElem?_set_ne (by omega)]; exact h.rest i hi1 hi2
  · have h1 := h.below.size
    have h2 := hgrow6.size
    refine ⟨hgrow6.os.trans h.below.os, hgrow6.tape.trans h.below.tape, hgrow6.output.trans h.below.output, by simp [World.setCell] at h2 ⊢; omega, fun b hb => ?_⟩
    exact (f0 b (by omega) (by omega) (fun e => by have := (h.own.lt _ e.symm).1; omega)).trans (h.below.block b hb)
theorem DI.cells {w : World} {ns : List (List Nat)} {k : Nat} {dn : List Nat} {v : Value} {C : List Value} {wr : World} (h : DI w ns k dn v C wr) (hk : k < ns.length) : wr.cell? ⟨w.heap.size, k, none⟩ = some v ∧ wr.frozen? ⟨w.heap.size, k, none⟩ = false ∧ w.heap.size < wr.heap.size :=
  ⟨by rw [h.row.cellAt k (by omega), h.cur hk], h.row.frozenAt k, (h.row.lt _ rfl).2⟩
theorem DI.cells6 {w : World} {ns : List (List Nat)} {k : Nat} {dn : List Nat} {v : Value} {C : List Value} {wr w6 : World} {tmp : Obj} (h : DI w ns k dn v C wr) (hk : k < ns.length) (hgrow6 : (wr.alloc tmp).grownBy w6 v.ownBlock) : w6.cell? ⟨w.heap.size, k, none⟩ = some v ∧ w6.frozen? ⟨w.heap.size, k, none⟩ = false := by
  have hne0 : some w.heap.size ≠ v.ownBlock := fun e => by have := (h.own.lt _ e.symm).1; omega
  have hrow6 : w6.ownsRow w.heap.size 23 1 (.slice (some ⟨w.heap.size, 0, none⟩) ns.length ns.length) ns.length C := (h.row.alloc tmp).kept hgrow6 (.inr hne0)
  exact ⟨by rw [hrow6.cellAt k (by omega), h.cur hk], hrow6.frozenAt k⟩
/-- Strings in blocks from base on. -/
def SRowB (base : Nat) (w : World) (A : Option Addr) (L : List ByteArray) : Prop := ∀ (j : Nat) (h : j < L.length), ∃ g, A = some ⟨g, 0, none⟩ ∧ base ≤ g ∧ w.cell? ⟨g, j, none⟩ = some (.string L[j])
theorem SRowB.of_own {w : World} {base : Nat} {v : Value} {M : List Bs} (h : w.ownsRow base 9 1 v M.length (M.map encStr)) : ∃ A c, v = .slice A M.length c ∧ SRowB base w A (mkL M) := by
  rcases h.2 with ⟨h1, h2⟩ | ⟨g, cap, cur, h1, hb, _⟩
  · exact ⟨none, 0, by rw [h1, h2], fun j hj => by rw [mkL_len] at hj; omega⟩
  · subst h1
    refine ⟨some ⟨g, 0, none⟩, cap, rfl, fun j hj => ⟨g, rfl, hb, ?_⟩⟩
    have hj2 : j < M.length := by rw [mkL_len] at hj; exact hj
    rw [h.cellAt j (by omega), enc_at M j hj2]
    have e : (mkL M)[j] = mkB M[j] := List.getElem_map _
    rw [e]
/-- All of these blocks but one are as they were. -/
structure Kq (R : Nat) (a b : World) : Prop where
  size : a.heap.size ≤ b.heap.size
  block : ∀ c, c < a.heap.size → c ≠ R → b.heap[c]? = a.heap[c]?
theorem SRowB.kq {R base : Nat} {w w' : World} {A : Option Addr} {L : List ByteArray} (h : SRowB base w A L) (hR : R < base) (hk : Kq R w w') : SRowB base w' A L := fun j hj => by
  obtain ⟨g, e, hb, hc⟩ := h j hj
  have hl : g < w.heap.size := World.block_lt_of_cell? w _ hc
  exact ⟨g, e, hb, (World.cell?_of_block (a := ⟨g, j, none⟩) (hk.block g hl (by omega))).trans hc⟩
theorem Kq.step {R k : Nat} {w6 wr w8 : World} {v u : Value} {tmp : Obj} (h : Kq R w6 wr) (hv : ∀ b, v.ownBlock = some b → w6.heap.size ≤ b) (hg : (wr.alloc tmp).grownBy w8 v.ownBlock) : Kq R w6 (w8.setCell ⟨R, k, none⟩ u) := by
  have h2 := hg.size
  refine ⟨by have := h.size; simp [World.setCell] at h2 ⊢; omega, fun c hc hne => ?_⟩
  refine (Below.heap_setCell w8 ⟨R, k, none⟩ _ c hne).trans ((NmR.app_keep hg (by have := h.size; omega) (fun e => by have := hv c e.symm; omega)).trans (h.block c hc hne))
/-- What direct answers. -/
def DirOut (ns : List (List Nat)) (w : World) (e : Ending) (w' : World) : Prop :=
  ∃ A c, e = .returned (.slice A ns.length c) ∧ NsRow w' A ns ∧ Below w.heap.size w w' ∧ ∀ g, A = some ⟨g, 0, none⟩ → ∃ cs, w'.heap[g]? = some (.cells cs 23 (0, 0))
theorem infoSl : (Tryz.prog.info? 23).map (fun i => (i.zero, i.size, i.bytes)) = some (some (.slice none 0 0), 1, 24) := by kernel_rfl
theorem di_start {w w1 : World} {ns : List (List Nat)} (h : w1.ownsRow w.heap.size 23 1 (.slice (some ⟨w.heap.size, 0, none⟩) ns.length ns.length) ns.length (madeCells (Value.slice none 0 0).cells (ns.length * 1)).toList) (hg : w.grownBy w1 none) : DI w ns 0 [] nilS (madeCells (Value.slice none 0 0).cells (ns.length * 1)).toList w1 := by
  have e : (madeCells (Value.slice none 0 0).cells (ns.length * 1)).toList = List.replicate ns.length nilS := by
    rw [Nat.mul_one]; exact toList_madeCells_one _ _
  rw [e] at h ⊢
  exact ⟨h, fun hk => by rw [List.getElem?_replicate, if_pos hk], World.ownsRow_nil _ _ _ _, fun i hi => absurd hi (by omega), fun i _ hi => by rw [List.getElem?_replicate, if_pos hi], (Below.refl _ _).grown hg (Nat.le_refl _) (fun k e => by cases e)⟩

set_option maxRecDepth 100000 in
set_option maxHeartbeats 8000000 in
theorem direct_any (fs : List GenL.Fd) (X : Nat → Ex) (FA : Option Addr) (fc : Nat) (w : World) (hm : fs.length ≤ 14) (hf : Flds w FA fs) (hX : Forms w fs X) (hT : Tab w) :
    Calls Tryz.prog 14 #[.slice FA fs.length fc] w (DirOut (needsF fs X) w) := by
  obtain ⟨i0, hi, hz0, hz1, hz2⟩ := info_parts1 infoInt
  obtain ⟨s0, hsi, hsz0, hsz1, hsz2⟩ := info_parts1 infoSl
  obtain ⟨ns, hns⟩ : ∃ ns, needsF fs X = ns := ⟨_, rfl⟩
  have hnl : ns.length = fs.length := by rw [← hns, needsF_len]
  have hnd : ∀ k, k < fs.length → nd ns k = needF fs X k := fun k hk => by rw [← hns, needsF_nd _ _ _ hk]
  rw [hns]
  have hst := fun w1 => di_start (w := w) (w1 := w1) (ns := ns)
  rw [hnl] at hst
  have hfin : ∀ C wr, DI w ns fs.length [] nilS C wr → DirOut ns w (.returned (.slice (some ⟨w.heap.size, 0, none⟩) fs.length fs.length)) wr := fun C wr h => by
    rw [← hnl] at h
    exact ⟨some ⟨w.heap.size, 0, none⟩, fs.length, by rw [hnl], h.done, h.below, fun g e => by
      injection e with e; injection e with e _ _
      rw [← e]; exact ⟨_, own_blk h.row⟩⟩
  have HF := Lib.hid hf
  have HX := Lib.hid hX
  have HT := Lib.hid hT
  have HNd := Lib.hid hnd
  have HSt := Lib.hid hst
  have HFin := Lib.hid hfin
  have HNl := Lib.hid hnl
  clear hf hX hT hnd hst hfin hnl hns
  go_enter Tryz.func14, Tryz.ntmps14
  go_wp2_with ((at_make; refine wpList_make_full _ rfl _ _ 36 rfl w.heap.size 23 s0 _ 1 Tryz.underlying36 hsi hsz0 hsz1 .i64 .i64 _ _ fs.length rfl rfl rfl rfl (by rw [hsz2]; omega) (by unfold maxLen; omega) (Nat.le_refl _) ?_; intro w1 hown hgrow))
  have hI := HSt.out w1 hown hgrow
  have HI := Lib.hid hI
  clear hI hown hgrow
  go_wp2_with fail
  go_loopw [4, 5, 6, 7, 9, 10, 11, 17] (fun _ _ _ _ _ _ _ ii wr => ∃ (k : Nat) (C : List Value), ii = .int .i64 k ∧ k ≤ fs.length ∧ DI w ns k [] nilS C wr) (fun _ _ _ _ _ _ _ ii _ => fs.length - (intOf ii).toNat)
  case atStart => exact ⟨0, _, rfl, by omega, HI.out⟩
  case round =>
    obtain ⟨k, C, rfl, hk, hV⟩ := hrel
    by_cases hlt : k < fs.length
    · obtain ⟨ad, rfl, hat⟩ := HF.out.below hV.below k hlt
      obtain ⟨q0, q1, q2, q3, q4, q5, q6, q7, q8⟩ := hat
      obtain ⟨hs, his⟩ := HX.out.below hV.below k hlt
      have hnk := HNd.out k hlt
      unfold needF at hnk
      rw [dif_pos hlt] at hnk
      have hT5 := HT.out.below hV.below
      obtain ⟨f, hfk⟩ : ∃ f, fs[k] = f := ⟨_, rfl⟩
      rw [hfk] at q0 q1 q2 q3 q4 q5 q6 q7 q8 hs his hnk
      obtain ⟨W5, hW5⟩ : ∃ V, wr.alloc (.cells #[.string f.nm, .int .i64 f.kind, .int .i64 f.ty, .int .i64 f.d.op, .int .i64 f.d.k, .int .i64 f.d.n, .string f.d.s, .string f.d.nm, .slice f.A f.n f.c] 48) = V := ⟨_, rfl⟩
      obtain ⟨B9, hB9⟩ : ∃ B, wr.heap.size = B := ⟨_, rfl⟩
      have hb5 := b_new wr (.cells #[.string f.nm, .int .i64 f.kind, .int .i64 f.ty, .int .i64 f.d.op, .int .i64 f.d.k, .int .i64 f.d.n, .string f.d.s, .string f.d.nm, .slice f.A f.n f.c] 48)
      have hcell := head_cells wr f
      unfold rightHead at hcell
      rw [hW5, hB9] at hcell
      rw [hW5] at hb5
      have hof := NmO.of_any (X k) f.d f.A f.n f.c W5 (his.below hb5) (hT5.below hb5)
      have hV5 := hV.keep hb5
      have hlen := ofL_len (X k)
      have hkl : k < ns.length := by rw [HNl.out]; exact hlt
      generalize hM : ofL (X k) = M at hof hnk hlen
      have HOf := Lib.hid hof
      have HV5 := Lib.hid hV5
      have HCell := Lib.hid hcell
      have HW5 := Lib.hid hW5
      have HB9 := Lib.hid hB9
      have HNk := Lib.hid hnk
      obtain ⟨k0, k1, k2, k3, k4, k5, k6, k7, k8⟩ := hcell W5 (Below.refl _ _)
      clear hof hV5 hcell hW5 hB9 hb5 his hT5 hs hfk hV hnk hM
      by_cases h1 : f.kind = 1
      · have t1 : (f.kind == 1) = true := beq_iff_eq.2 h1
        have hnk := HNk.out
        rw [if_pos h1] at hnk
        have hN := DI.next (by rw [hnk]; exact HV5.out) hkl
        have HN := Lib.hid hN
        clear hnk hN h1
        go_wp2_with fail
        rw [HW5.out]
        go_roundw
        case rel => exact ⟨k + 1, C, by go_num, by omega, HN.out⟩
        case measure => simp [intOf]; omega
      · have t1 : (f.kind == 1) = false := beq_eq_false_iff_ne.2 h1
        have hnk := HNk.out
        rw [if_neg h1] at hnk
        have HNk := Lib.hid hnk
        clear hnk h1
        go_wp2_with fail
        rw [HW5.out, HB9.out]
        go_wp2_with fail
        refine HOf.out.mono ?_; rintro e w6 ⟨v6, rfl, hown6, hb6⟩
        obtain ⟨A6, c6, rfl, hr6⟩ := SRowB.of_own hown6
        have hRl : w.heap.size < W5.heap.size := (HV5.out.row.lt _ rfl).2
        have hV6 := HV5.out.keep hb6
        have HV6 := Lib.hid hV6
        have HR6 := Lib.hid hr6
        clear hown6 hr6 hV6 hb6
        go_wp2_with fail
        go_loopw [9, 10, 11, 33] (fun _ _ _ ii wr => ∃ (m : Nat) (v : Value) (C : List Value), ii = .int .i64 m ∧ m ≤ M.length ∧ DI w ns k (((mkL M).take m).map (plN fs)) v C wr ∧ Kq w.heap.size w6 wr ∧ ∀ b, v.ownBlock = some b → w6.heap.size ≤ b) (fun _ _ _ ii _ => M.length - (intOf ii).toNat)
        case atStart => exact ⟨0, nilS, C, rfl, by omega, HV6.out, ⟨Nat.le_refl _, fun _ _ _ => rfl⟩, fun b e => by simp [nilS, Value.ownBlock] at e⟩
        case round =>
          obtain ⟨m, v, C2, rfl, hml, hV7, hb7, hv7⟩ := hrel
          by_cases hmm : m < M.length
          · have hmm2 : m < (mkL M).length := by rw [mkL_len]; exact hmm
            obtain ⟨g6, rfl, _, hc6⟩ := SRowB.kq HR6.out hRl hb7 m hmm2
            obtain ⟨r9, hfi⟩ : ∃ r9 : Int, Calls Tryz.prog 27 #[.slice (some ad) fs.length fc, .string (mkL M)[m]] wr fun e w' => e = .returned (.tuple #[.int .i64 (plN fs (mkL M)[m] : Nat), .int .i64 r9]) ∧ wr = w' := by
              have := find_any (mkL M)[m] fs (some ad) fc wr (HF.out.below hV7.below) (by omega)
              refine ⟨if atF fs (mkL M)[m] < fs.length then 0 else 5, this.mono fun e w' h => ⟨?_, h.2⟩⟩
              rw [h.1]; unfold plN
              by_cases h9 : atF fs (mkL M)[m] < fs.length
              · simp only [if_pos h9]
              · simp only [if_neg h9]; rfl
            have htk : ((mkL M).take (m + 1)).map (plN fs) = ((mkL M).take m).map (plN fs) ++ [plN fs (mkL M)[m]] := by
              rw [List.take_succ_eq_append_getElem hmm2, List.map_append]; rfl
            have hstep : ∀ (gg cap : Nat) (w6 : World) (tmp : Obj), w6.ownsRow (w.heap.size + 1) 3 1 (.slice (some ⟨gg, 0, none⟩) (m + 1) cap) (m + 1) (nV (((mkL M).take m).map (plN fs)) ++ [.int .i64 (plN fs (mkL M)[m] : Nat)]) → (wr.alloc tmp).grownBy w6 v.ownBlock → (v.ownBlock = some gg ∨ gg = wr.heap.size + 1) → DI w ns k (((mkL M).take (m + 1)).map (plN fs)) (.slice (some ⟨gg, 0, none⟩) (m + 1) cap) (C2.set k (.slice (some ⟨gg, 0, none⟩) (m + 1) cap)) (w6.setCell ⟨w.heap.size, k, none⟩ (.slice (some ⟨gg, 0, none⟩) (m + 1) cap)) := fun gg cap w6 tmp h1 h2 h3 => by
              have hdl : (((mkL M).take m).map (plN fs)).length = m := by rw [List.length_map, List.length_take]; omega
              have := hV7.step (j := plN fs (mkL M)[m]) (gg := gg) (cap := cap) hkl (by rw [hdl]; exact h1) h2 h3
              rw [hdl] at this
              rw [htk]; exact this
            have hown7 : wr.ownsRow (w.heap.size + 1) 3 1 v m (nV (((mkL M).take m).map (plN fs))) := by
              have hdl : (((mkL M).take m).map (plN fs)).length = m := by rw [List.length_map, List.length_take]; omega
              have := hV7.own
              rw [hdl] at this; exact this
            have hkq : ∀ (w8 : World) (tmp : Obj) (u : Value), (wr.alloc tmp).grownBy w8 v.ownBlock → Kq w.heap.size w6 (w8.setCell ⟨w.heap.size, k, none⟩ u) := fun w8 tmp u h => hb7.step hv7 h
            have hov : ∀ gg : Nat, (v.ownBlock = some gg ∨ gg = wr.heap.size + 1) → w6.heap.size ≤ gg := fun gg h => by
              rcases h with h | h
              · exact hv7 gg h
              · have := hb7.size; omega
            have hkeep : ∀ (w6 : World) (tmp : Obj), (wr.alloc tmp).grownBy w6 v.ownBlock → (w6.cell? ⟨w.heap.size, k, none⟩ = some v ∧ w6.frozen? ⟨w.heap.size, k, none⟩ = false) := fun w6 tmp h => hV7.cells6 hkl h
            obtain ⟨z1, z2, z3⟩ := hV7.cells hkl
            generalize nV (((mkL M).take m).map (plN fs)) = xs7 at hown7 hstep
            generalize plN fs (mkL M)[m] = pl at hfi hstep
            generalize (mkL M)[m] = s at hfi hc6
            have HStep := Lib.hid hstep
            have HOwn := Lib.hid hown7
            have HKeep := Lib.hid hkeep
            have HFi := Lib.hid hfi
            have HKq := Lib.hid hkq
            have HOv := Lib.hid hov
            have hki : (k : Int) < (fs.length : Int) := by omega
            clear hstep hown7 hkeep hkq hov hfi hb7 hv7 htk hV7 hmm2
            go_wp2_with (first
              | (go_at_call 27; refine HFi.out.mono ?_; rintro e w1 ⟨rfl, rfl⟩)
              | (at_builtin; refine wpList_append_lies _ rfl _ _ 23 rfl (w.heap.size + 1) 3 i0 _ 1 8 Tryz.underlying23 hi hz0 hz1 hz2 rfl (by decide) v m xs7 rfl (HOwn.out.alloc _) ⟨wr.heap.size, 0, none⟩ 1 1 [.int .i64 (pl : Int)] rfl rfl (World.news_of_block (cs := #[.int .i64 (pl : Int)]) (t := 3) (fr := (0, 0)) (World.alloc_heap_new wr _)) (by simp [Value.oneCell']) (by decide) (by unfold maxLen; omega) (by omega) (by simp; omega) (wr.heap.size + 1) (by simp) ?_; intro gg cap w8 hown8 hgrow8 hat8 hlt8; obtain ⟨y0, yf⟩ := HKeep.out w8 _ hgrow8; have hN := HStep.out gg cap w8 _ hown8 hgrow8 hat8; have HN := Lib.hid hN; have HQ := Lib.hid (HKq.out w8 _ (.slice (some ⟨gg, 0, none⟩) (m + 1) cap) hgrow8); have HO9 := Lib.hid (HOv.out gg hat8); clear hN hown8 hgrow8 hat8 hlt8))
            go_roundw
            case rel => exact ⟨m + 1, _, _, by go_num, by omega, HN.out, HQ.out, fun b e => by injection e with e; rw [← e]; exact HO9.out⟩
            case measure => simp [intOf]; omega
          · obtain rfl : m = M.length := by omega
            have hN := DI.next (v := v) (C := C2) (by rw [HNk.out]; have := hV7; rw [List.take_of_length_le (by rw [mkL_len]; exact Nat.le_refl _)] at this; exact this) hkl
            have HN := Lib.hid hN
            clear hN hV7 hb7 hv7
            go_wp2_with fail
            go_roundw
            case rel => exact ⟨k + 1, _, by go_num, by omega, HN.out⟩
            case measure => simp [intOf]; omega
    · obtain rfl : k = fs.length := by omega
      have hO := HFin.out C wr hV
      have HO := Lib.hid hO
      clear hO hV
      go_wp2_with fail
      go_ret
      exact HO.out
end Go.Proofs.YthgcmficmodhiaaGreatDoor.RkD
