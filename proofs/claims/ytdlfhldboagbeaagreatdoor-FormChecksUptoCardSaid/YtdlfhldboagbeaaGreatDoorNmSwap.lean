/- The reference's ExprCopy. The reference's swapped, NamesPut. -/
import Derived.Test.YtdlfhldboagbeaaGreatDoorNmPut
import Derived.Deep.RegionHeld3
import Derived.Deep.QuietTactic
import Derived.Deep.RegionWith
import Derived.Deep.RegionLaw
import Derived.Deep.AppendLies
import Derived.Deep.DrawnRows
import Derived.BigQuiet
import Derived.Test.YtdlfhldboagbeaaGreatDoorExRef
namespace Go.Proofs.YtdlfhldboagbeaaGreatDoor.NmR
open Go.RowKit
open ExM NmM Kit ExL ExP ExV ExN NmC NmP
set_option linter.unusedVariables false

/-- What a copy is: a row of its own, whose elements lie apart from it. -/
def Kept (base : Nat) (d : Nd) (l : List Ex) (es : List El) (v : Value) (W : World) : Prop :=
  es.map El.x = l ∧ W.ownsRow base 48 6 v es.length (elC es) ∧ ∀ e ∈ es, IsP (fun b => base ≤ b ∧ some b ≠ v.ownBlock) W e.x e.d e.A e.n
def CopyOut (d : Nd) (l : List Ex) (w : World) (e : Ending) (w' : World) : Prop :=
  ∃ (es : List El) (v : Value), e = .returned (.agg #[.int .i64 d.op, .int .i64 d.k, .int .i64 d.n, .string d.s, .string d.nm, v]) ∧ Kept w.heap.size d l es v w' ∧ Below w.heap.size w w'
theorem Kept.isP {base : Nat} {d : Nd} {l : List Ex} {es : List El} {v : Value} {W : World} (h : Kept base d l es v W) (hs : d.s.size ≤ maxLen) (hn : d.nm.size ≤ maxLen) : ∃ A c, v = .slice A l.length c ∧ IsP (fun b => base ≤ b) W (.mk d l) d A l.length := by
  obtain ⟨h1, h2, h3⟩ := h
  have hl : l.length = es.length := by rw [← h1, List.length_map]
  rcases Nat.eq_zero_or_pos es.length with h0 | h0
  · obtain ⟨A, c, rfl⟩ := own_slice h2
    have : l = [] := List.eq_nil_of_length_eq_zero (by omega)
    subst this
    exact ⟨A, c, by rw [h0]; rfl, isP_leaf _ _ _ _ hs hn⟩
  · obtain ⟨g, cap, rfl, hg, _, hlc, hcm, hc⟩ := own_form h2 h0
    refine ⟨some ⟨g, 0, none⟩, cap, by rw [hl], ?_⟩
    rw [hl, ← h1]
    exact isP_row (P := fun b => base ≤ b) hc hg (by omega) hs hn fun e he => (h3 e he).imp fun b hb _ => hb.1
theorem CopyOut.made {d : Nd} {l : List Ex} {w w' : World} {e : Ending} (h : CopyOut d l w e w') (hs : d.s.size ≤ maxLen) (hn : d.nm.size ≤ maxLen) : Made (.mk d l) w e w' := by
  obtain ⟨es, v, rfl, hk, hb⟩ := h
  obtain ⟨A, c, rfl, hi⟩ := hk.isP hs hn
  exact ⟨d, A, l.length, c, rfl, hi, hb⟩

/-- Between two operands. -/
structure CInv (w : World) (d : Nd) (l : List Ex) (A : Option Addr) (c : Nat) (k : Nat) (es : List El) (v : Value) (wr : World) : Prop where
  le : k ≤ l.length
  len : es.length = k
  ex : es.map El.x = l.take k
  own : wr.ownsRow (w.heap.size + 3) 48 6 v es.length (elC es)
  is : ∀ e ∈ es, IsP (fun b => w.heap.size + 3 ≤ b ∧ some b ≠ v.ownBlock) wr e.x e.d e.A e.n
  bx : Box wr w.heap.size d A l.length c
  res : Box wr (w.heap.size + 1) ⟨0, 0, 0, ⟨#[]⟩, ⟨#[]⟩⟩ none 0 0
  box : wr.heap[w.heap.size + 2]? = some (.cells #[.int .i64 d.op, .int .i64 d.k, .int .i64 d.n, .string d.s, .string d.nm, v] 48 (0, 0))
  below : Below w.heap.size w wr
theorem CInv.step {w wr w5 w6 : World} {d0 : Nd} {l : List Ex} {A : Option Addr} {c : Nat} {k : Nat} {es : List El} {v : Value} {d : Nd} {B : Option Addr} {m cp gg cap : Nat} {tmp : Obj} (h : CInv w d0 l A c k es v wr) (hk : k < l.length)
    (hisx : IsP (fun b => wr.drew.heap.size ≤ b) w5 l[k] d B m) (hgr2 : Below wr.drew.heap.size wr.drew w5)
    (hown6 : w6.ownsRow (w.heap.size + 3) 48 6 (.slice (some ⟨gg, 0, none⟩) (es.length + 1) cap) (es.length + 1) (elC es ++ [.int .i64 d.op, .int .i64 d.k, .int .i64 d.n, .string d.s, .string d.nm, .slice B m cp]))
    (hgrow6 : (w5.alloc tmp).grownBy w6 v.ownBlock) (hat6 : v.ownBlock = some gg ∨ gg = w5.heap.size + 1) :
    CInv w d0 l A c (k + 1) (es ++ [⟨l[k], d, B, m, cp⟩]) (.slice (some ⟨gg, 0, none⟩) (es.length + 1) cap) (w6.setCell ⟨w.heap.size + 2, 5, none⟩ (.slice (some ⟨gg, 0, none⟩) (es.length + 1) cap)) := by
  have hbl := (Array.getElem?_eq_some_iff.1 h.box).1
  have hs5 : wr.heap.size ≤ w5.heap.size := hgr2.size
  have hgg : w.heap.size + 3 ≤ gg := (hown6.lt gg rfl).1
  have hge : Value.ownBlock (.slice (some ⟨gg, 0, none⟩) (es.length + 1) cap) = some gg := rfl
  have hov : ∀ g, v.ownBlock = some g → w.heap.size + 3 ≤ g ∧ g < wr.heap.size := fun g hg => h.own.lt g hg
  have f5 : ∀ b, b < w5.heap.size → some b ≠ v.ownBlock → b ≠ w.heap.size + 2 → (w6.setCell ⟨w.heap.size + 2, 5, none⟩ (.slice (some ⟨gg, 0, none⟩) (es.length + 1) cap)).heap[b]? = w5.heap[b]? := fun b hl hne hx =>
    (Below.heap_setCell w6 ⟨w.heap.size + 2, 5, none⟩ _ b hx).trans (app_keep hgrow6 hl hne)
  have f0 : ∀ b, b < wr.heap.size → some b ≠ v.ownBlock → b ≠ w.heap.size + 2 → (w6.setCell ⟨w.heap.size + 2, 5, none⟩ (.slice (some ⟨gg, 0, none⟩) (es.length + 1) cap)).heap[b]? = wr.heap[b]? := fun b hl hne hx =>
    (f5 b (by omega) hne hx).trans (hgr2.block b hl)
  have hnb : ∀ b, b < w.heap.size + 3 → some b ≠ v.ownBlock := fun b hb => own_far h.own hb
  refine ⟨hk, by simp [h.len], ?_, ?_, ?_, ?_, ?_, ?_, ?_⟩
  · rw [take_at l k hk, List.map_append, h.ex]; rfl
  · rw [elC_snoc, List.length_append]
    refine World.ownsRow.kept (row := some (w.heap.size + 2)) hown6 ⟨rfl, rfl, rfl, by simp [World.setCell], fun k _ hk => Below.heap_setCell _ _ _ k (fun e => hk (by rw [e]))⟩ (.inr ?_)
    rw [hge]; intro e; injection e with e; omega
  · intro e he
    rcases List.mem_append.1 he with he | he
    · refine IsP.keep (fun b hb hl => f0 b hl hb.2 (by omega)) (fun b hb hl => ⟨hb.1, ?_⟩) _ _ _ _ (h.is e he)
      rw [hge]; intro e; injection e with e
      rcases hat6 with g | g
      · exact hb.2 (by rw [g, e])
      · omega
    · simp at he; subst he
      refine IsP.keep (fun b hb hl => ?_) (fun b hb hl => ⟨?_, ?_⟩) _ _ _ _ hisx
      · have hb' : wr.heap.size ≤ b := hb
        exact f5 b hl (fun e => by have := (hov b e.symm).2; omega) (by omega)
      · have hb' : wr.heap.size ≤ b := hb
        omega
      · have hb' : wr.heap.size ≤ b := hb
        rw [hge]; intro e; injection e with e
        rcases hat6 with g | g
        · have := (hov gg g).2; omega
        · omega
  · exact (f0 _ h.bx.lt (hnb _ (by omega)) (by omega)).trans h.bx
  · exact (f0 _ h.res.lt (hnb _ (by omega)) (by omega)).trans h.res
  · have h6 : w6.heap[w.heap.size + 2]? = _ := ((app_keep hgrow6 (by omega) (hnb _ (by omega))).trans (hgr2.block _ hbl)).trans h.box
    simp [World.setCell, Array.getElem?_modify, h6]
  · refine ⟨hgrow6.os.trans (hgr2.os.trans h.below.os), hgrow6.tape.trans (hgr2.tape.trans h.below.tape), hgrow6.output.trans (hgr2.output.trans h.below.output), ?_, fun b hb => ?_⟩
    · have h1 := h.below.size
      have h2 := hgrow6.size
      simp [World.setCell] at h2 ⊢; omega
    · exact (f0 b (by have := h.below.size; omega) (hnb b (by omega)) (by omega)).trans (h.below.block b hb)

set_option maxHeartbeats 20000000 in
set_option maxRecDepth 100000 in
theorem refCopy_any : ∀ (x : Ex) (d : Nd) (A : Option Addr) (m c : Nat) (w : World), x.nodes ≤ 1048576 → Is w x d A m →
    Calls Tryz.prog 30 #[.agg #[.int .i64 d.op, .int .i64 d.k, .int .i64 d.n, .string d.s, .string d.nm, .slice A m c]] w (CopyOut x.d x.args w) := by
  obtain ⟨i0, hi, hz0, hz1, hz2⟩ := info_parts infoEx
  refine Ex.ind fun d l ih => ?_
  intro d' A m c w hx his
  rw [is_mk] at his
  obtain ⟨rfl, rfl, ⟨hm, hs1, hs2⟩, his⟩ := his
  rw [nodes_mk] at hx
  have hlen := len_nodesL l
  show Calls _ _ _ _ (CopyOut d' l w)
  have hih : ∀ (k : Nat) (hk : k < l.length) (d2 : Nd) (A2 : Option Addr) (n2 c2 : Nat) (W : World), Is W l[k] d2 A2 n2 → Calls Tryz.prog 30 #[.agg #[.int .i64 d2.op, .int .i64 d2.k, .int .i64 d2.n, .string d2.s, .string d2.nm, .slice A2 n2 c2]] W (Made l[k] W) := fun k hk d2 A2 n2 c2 W hi => by
    refine (ih _ (List.getElem_mem hk) d2 A2 n2 c2 W (by have := nodes_mem (List.getElem_mem hk); omega) hi).mono fun e w' h => ?_
    have hd := ExS.is_d hi
    have e1 : l[k] = .mk l[k].d l[k].args := by cases l[k]; rfl
    have hz : l[k].d.s.size ≤ maxLen ∧ l[k].d.nm.size ≤ maxLen := by
      rw [e1, is_mk] at hi; exact hi.2.2.1.2
    rw [e1]
    exact h.made hz.1 hz.2
  have hI0 : ∀ o0 o1 o2, o0 = Obj.cells #[.int .i64 d'.op, .int .i64 d'.k, .int .i64 d'.n, .string d'.s, .string d'.nm, .slice A l.length c] 48 → o1 = Obj.cells #[.int .i64 0, .int .i64 0, .int .i64 0, .string ⟨#[]⟩, .string ⟨#[]⟩, .slice none 0 0] 48 → o2 = Obj.cells #[.int .i64 d'.op, .int .i64 d'.k, .int .i64 d'.n, .string d'.s, .string d'.nm, .slice none 0 0] 48 → CInv w d' l A c 0 [] (.slice none 0 0) (((w.alloc o0).alloc o1).alloc o2) := fun o0 o1 o2 e0 e1 e2 => by
    have hb := box2 w o0 o1 o2 o2
    have a0 := World.alloc_heap_new w o0
    have a1 := World.alloc_heap_new (w.alloc o0) o1
    have a2 := World.alloc_heap_new ((w.alloc o0).alloc o1) o2
    simp only [World.size_alloc] at a1 a2
    have k := fun (v : World) (o : Obj) (b : Nat) (x : Obj) (h : v.heap[b]? = some x) => ((b_new v o).block b (Array.getElem?_eq_some_iff.1 h).1).trans h
    subst e0 e1 e2
    exact ⟨Nat.zero_le _, rfl, rfl, World.ownsRow_nil _ _ _ _, fun e he => by simp at he, k _ _ _ _ (k _ _ _ _ a0), k _ _ _ _ a1, a2, b_more (b_more (b_new _ _) _) _⟩
  have HI0 := Lib.hid (hI0 _ _ _ rfl rfl rfl)
  have HS := Lib.hid his
  have HH := Lib.hid hih
  have HS1 := Lib.hid hs1
  have HS2 := Lib.hid hs2
  have hl6 : l.length ≤ 1048576 := by omega
  clear hI0 hih his ih hs1 hs2 hm hx hlen
  go_enter Tryz.func30, Tryz.ntmps30
  go_wp2_with fail
  go_loopw [4, 15] (fun _ i wr => ∃ (k : Nat) (es : List El) (v : Value), i = .int .i64 k ∧ CInv w d' l A c k es v wr) (fun _ i _ => l.length - (intOf i).toNat)
  case atStart => exact ⟨0, [], _, rfl, HI0.out⟩
  case round =>
    obtain ⟨k, es, v, rfl, hI⟩ := hrel
    have HI := Lib.hid hI
    have hle := hI.le
    have hs2 : w.heap.size + 3 ≤ wr.heap.size := (Array.getElem?_eq_some_iff.1 hI.box).1
    by_cases hlt : k < l.length
    · obtain ⟨a, d2, B, m2, c2, rfl, hat, hi2⟩ := HS.out k hlt
      have hat2 := hat.below hI.below
      obtain ⟨e0, e1, e2, e3, e4, e5⟩ := hat2
      have hal := cell_lt' e0
      rw [block_of_add] at hal
      have hwl : a.block < w.heap.size := by have := hat.lt; rwa [block_of_add] at this
      have hc := HH.out k hlt d2 B m2 c2 wr.drew (hi2.below (b_drew hI.below))
      have HC := Lib.hid hc
      have hbx := hI.bx
      have hbo := hI.box
      have x5 : wr.cell? ⟨w.heap.size, 5, none⟩ = some (.slice (some a) l.length c) := hbx.cells.2.2.2.2.2
      have y5 : wr.cell? ⟨w.heap.size + 2, 5, none⟩ = some v := by simp [World.cell?, hbo]
      have f5 : ∀ o, wr.frozen? ⟨w.heap.size + 2, o, none⟩ = false := fun o => by simp [World.frozen?, hbo]
      have hcs : ∀ V, Below wr.drew.heap.size wr.drew V → V.cell? ⟨w.heap.size + 2, 5, none⟩ = some v ∧ (∀ o, V.frozen? ⟨w.heap.size + 2, o, none⟩ = false) ∧ w.heap.size + 2 < V.heap.size := fun V hV => by
        have hl5 : w.heap.size + 2 < wr.drew.heap.size := by show w.heap.size + 2 < wr.heap.size; omega
        exact ⟨(hV.cell (p := ⟨w.heap.size + 2, 5, none⟩) hl5).trans y5, fun o => (hV.frozen (p := ⟨w.heap.size + 2, o, none⟩) hl5).trans (f5 o), Nat.lt_of_lt_of_le hl5 hV.size⟩
      have hcs2 : ∀ V W' o, Below wr.drew.heap.size wr.drew V → (V.alloc o).grownBy W' v.ownBlock → W'.cell? ⟨w.heap.size + 2, 5, none⟩ = some v ∧ (∀ o, W'.frozen? ⟨w.heap.size + 2, o, none⟩ = false) := fun V W' o hV hW => by
        obtain ⟨p5, pf, pl⟩ := hcs V hV
        have b5 := app_keep hW pl (own_far HI.out.own (b := w.heap.size + 2) (by omega))
        exact ⟨(World.cell?_of_block (a := ⟨w.heap.size + 2, 5, none⟩) b5).trans p5, fun o => (World.frozen?_of_block (a := ⟨w.heap.size + 2, o, none⟩) b5).trans (pf o)⟩
      have HCs := Lib.hid hcs
      have HCs2 := Lib.hid hcs2
      have hl6 : ∀ (V : World) (o : Obj), Below wr.drew.heap.size wr.drew V → w.heap.size + 3 ≤ (V.alloc o).heap.size := fun V o hV => by have := (hcs V hV).2.2; simp; omega
      have HL6 := Lib.hid hl6
      clear hl6
      have hel : es.length = k := HI.out.len
      have hel1 : es.length ≤ 1048576 := by omega
      clear hI hc hcs hcs2 hbx hbo hel hat hi2
      go_wp2_with fail
      go_region_law (first
          | (refine step_append_lies _ (by rfl) _ _ _ (by rfl) (w.heap.size + 3) 48 i0 _ 6 80 Tryz.underlying46 hi hz0 hz1 hz2 rfl (by omega) v es.length (elC es) (by rfl) (own5.alloc _) ⟨w5.heap.size, 0, none⟩ 1 1 [.int .i64 d.op, .int .i64 d.k, .int .i64 d.n, .string d.s, .string d.nm, .slice B5 m5 c5] (by rfl) (by rfl) (World.news_of_block (cs := #[.int .i64 d.op, .int .i64 d.k, .int .i64 d.n, .string d.s, .string d.nm, .slice B5 m5 c5]) (t := 48) (fr := (0, 0)) (heap_alloc_new w5 _)) (by simp [Value.oneCell']) (by omega) (by unfold maxLen; omega) (by omega) hz6 (w5.heap.size + 1) (by simp) ?_; intro gg cap w6 hown6 hgrow6 hat6 hlt6; obtain ⟨q5', qf'⟩ := HCs2.out w5 w6 _ HX.out.2 hgrow6; have H6 := Lib.hid (And.intro hown6 (And.intro hgrow6 (And.intro hat6 hlt6))); clear hown6 hgrow6 hat6)
          | (go_simp; go_at_call 30; (with_reducible refine HC.out.mono ?_); rintro e w5 ⟨d, B5, m5, c5, rfl, hisx, hb5⟩; obtain ⟨q5, qf, hz5⟩ := HCs.out w5 hb5; have own5 := own_below (HI.out.own.drew) hb5; have hz6 := HL6.out w5 (.cells #[.int .i64 d.op, .int .i64 d.k, .int .i64 d.n, .string d.s, .string d.nm, .slice B5 m5 c5] 48) hb5; have HX := Lib.hid (And.intro hisx hb5); clear hisx hb5))
      all_goals
        have hN := HI.out.step (d := d) (B := B5) (m := m5) (cp := c5) (tmp := .cells #[.int .i64 d.op, .int .i64 d.k, .int .i64 d.n, .string d.s, .string d.nm, .slice B5 m5 c5] 48) hlt HX.out.1 HX.out.2 H6.out.1 H6.out.2.1 H6.out.2.2.1
        have HN := Lib.hid hN
        clear hN q5 qf q5' qf' own5 H6 HX HC HCs HCs2 x5 y5 f5 e0 e1 e2 e3 e4 e5
        go_wp2_with fail
        go_roundw
        case rel => exact ⟨k + 1, _, _, by go_num, HN.out⟩
        case measure => simp [intOf]; omega
    · have hkl : k = l.length := by omega
      subst hkl
      have hres := hI.res
      have hbo := hI.box
      unfold Box at hres
      have hc8 : ∀ o, wr.cell? ⟨w.heap.size + 2, o, none⟩ = (#[.int .i64 d'.op, .int .i64 d'.k, .int .i64 d'.n, .string d'.s, .string d'.nm, v] : Array Value)[o]? := fun o => by simp [World.cell?, hbo]
      have hc7 : ∀ o, wr.cell? ⟨w.heap.size + 1, o, none⟩ = (#[.int .i64 0, .int .i64 0, .int .i64 0, .string ⟨#[]⟩, .string ⟨#[]⟩, .slice none 0 0] : Array Value)[o]? := fun o => by simp [World.cell?, hres]
      have hf7 : ∀ o, wr.frozen? ⟨w.heap.size + 1, o, none⟩ = false := fun o => by simp [World.frozen?, hres]
      obtain ⟨A9, c9, rfl⟩ := own_slice hI.own
      clear hI hres hbo
      go_wp2_with fail
      refine bodyPost_ret (v := .agg #[.int .i64 d'.op, .int .i64 d'.k, .int .i64 d'.n, .string d'.s, .string d'.nm, .slice A9 es.length c9]) (by simp [results, Tryz.results30, go_sem, hc7]) rfl ?_
      have hI := HI.out
      refine ⟨es, .slice A9 es.length c9, rfl, ⟨by rw [hI.ex, List.take_length], ?_, fun e he => ?_⟩, set6_below (i := 0) hI.below (by omega) _ _ _ _ _ _⟩
      · exact World.ownsRow.kept (row := some (w.heap.size + 1)) (own_base hI.own (by omega)) ⟨rfl, rfl, rfl, by rw [set6_size]; exact Nat.le_refl _, fun k _ hk => set6_block (i := 0) (fun e => hk (by rw [e])) _ _ _ _ _ _⟩ (.inr fun e => own_far hI.own (b := w.heap.size + 1) (by omega) e.symm)
      · exact IsP.keep (fun b hb hl => set6_block (i := 0) (by omega) _ _ _ _ _ _) (fun b hb hl => ⟨by omega, hb.2⟩) _ _ _ _ (hI.is e he)
end Go.Proofs.YtdlfhldboagbeaaGreatDoor.NmR
namespace Go.Proofs.YtdlfhldboagbeaaGreatDoor.NmS
open Go.RowKit
open ExM NmM Kit ExL ExP ExV ExN NmC NmP NmR
set_option linter.unusedVariables false

theorem elC_append (a b : List El) : elC (a ++ b) = elC a ++ elC b := by unfold elC; rw [List.flatMap_append]
theorem elC_cons (e : El) (l : List El) : elC (e :: l) = e.cells ++ elC l := by unfold elC; rw [List.flatMap_cons]
theorem el_cells (e : El) : e.cells = [.int .i64 e.d.op, .int .i64 e.d.k, .int .i64 e.d.n, .string e.d.s, .string e.d.nm, .slice e.A e.n e.c] := rfl
/-- The row behind a store of one element. -/
theorem set_el {w : World} {base g n cap k : Nat} {es : List El} {t : TypeId} (h : w.ownsRow base t 6 (.slice (some ⟨g, 0, none⟩) n cap) n (elC es)) (hk : k < es.length) (e : El) :
    ((((((w.setCell ⟨g, k * 6, none⟩ (.int .i64 e.d.op)).setCell ⟨g, k * 6 + 1, none⟩ (.int .i64 e.d.k)).setCell ⟨g, k * 6 + 2, none⟩ (.int .i64 e.d.n)).setCell ⟨g, k * 6 + 3, none⟩ (.string e.d.s)).setCell ⟨g, k * 6 + 4, none⟩ (.string e.d.nm)).setCell ⟨g, k * 6 + 5, none⟩ (.slice e.A e.n e.c)).ownsRow base t 6 (.slice (some ⟨g, 0, none⟩) n cap) n (elC (es.set k e)) := by
  have e1 : elC es = elC (es.take k) ++ elC (es.drop k) := by rw [← elC_append, List.take_append_drop]
  have e2 : es.drop k = es[k] :: es.drop (k + 1) := List.drop_eq_getElem_cons hk
  have e3 : (elC (es.drop k)).drop 6 = elC (es.drop (k + 1)) := by
    rw [e2, elC_cons]; exact List.drop_left' (by rfl)
  have e4 : elC (es.set k e) = (elC (es.take k) ++ [.int .i64 e.d.op, .int .i64 e.d.k, .int .i64 e.d.n, .string e.d.s, .string e.d.nm, .slice e.A e.n e.c]) ++ (elC (es.drop k)).drop 6 := by
    rw [e3, List.set_eq_take_append_cons_drop, if_pos hk, elC_append, elC_cons, el_cells, List.append_assoc]
  rw [e4]
  rw [e1] at h
  refine set6_own h ?_ ?_ _ _ _ _ _ _
  · rw [elC_len, List.length_take]; omega
  · rw [elC_len, List.length_drop]; omega
theorem set_ex {l : List Ex} {es : List El} {f : Ex → Ex} {k : Nat} (h : es.map El.x = (l.take k).map f ++ l.drop k) (hk : k < l.length) (e : El) (he : e.x = f l[k]) : (es.set k e).map El.x = (l.take (k + 1)).map f ++ l.drop (k + 1) := by
  have hl : es.length = l.length := by
    have := congrArg List.length h
    simp at this; omega
  rw [List.map_set, h, he, take_at l k hk, List.map_append]
  have : k = ((l.take k).map f).length := by rw [List.length_map, List.length_take]; omega
  rw [List.set_append_right _ _ (by omega), show k - ((l.take k).map f).length = 0 by omega, List.drop_eq_getElem_cons hk, List.set_cons_zero, List.append_assoc]
  rfl

/-- Between two elements. -/
structure SInv (w : World) (f : Ex → Ex) (d dy : Nd) (l : List Ex) (A Ay : Option Addr) (c my cy B3 : Nat) (v : Value) (k : Nat) (es : List El) (wr : World) : Prop where
  le : k ≤ l.length
  ex : es.map El.x = (l.take k).map f ++ l.drop k
  own : wr.ownsRow (w.heap.size + 3) 48 6 v l.length (elC es)
  is : ∀ e ∈ es, IsP (fun b => w.heap.size + 3 ≤ b ∧ some b ≠ v.ownBlock) wr e.x e.d e.A e.n
  bx : Bx3 w d dy A Ay l.length c my cy wr
  bz : wr.heap[B3]? = some (.cells #[.int .i64 d.op, .int .i64 d.k, .int .i64 d.n, .string d.s, .string d.nm, v] 48 (0, 0))
  hz : w.heap.size + 3 ≤ B3
  hv : some B3 ≠ v.ownBlock
  below : Below w.heap.size w wr
theorem SInv.len {w : World} {f : Ex → Ex} {d dy : Nd} {l : List Ex} {A Ay : Option Addr} {c my cy B3 : Nat} {v : Value} {k : Nat} {es : List El} {wr : World} (h : SInv w f d dy l A Ay c my cy B3 v k es wr) : es.length = l.length := by
  have := congrArg List.length h.ex
  have hk := h.le
  simp at this; omega
theorem SInv.step {w : World} {f : Ex → Ex} {d dy : Nd} {l : List Ex} {A Ay : Option Addr} {c my cy B3 g cap : Nat} {k : Nat} {es : List El} {wr w5 : World} {d5 : Nd} {B5 : Option Addr} {m5 c5 : Nat} (h : SInv w f d dy l A Ay c my cy B3 (.slice (some ⟨g, 0, none⟩) l.length cap) k es wr) (hk : k < l.length)
    (hi : IsP (fun b => wr.drew.heap.size ≤ b) w5 (f l[k]) d5 B5 m5) (hb : Below wr.heap.size wr w5) :
    SInv w f d dy l A Ay c my cy B3 (.slice (some ⟨g, 0, none⟩) l.length cap) (k + 1) (es.set k ⟨f l[k], d5, B5, m5, c5⟩) ((((((w5.setCell ⟨g, k * 6, none⟩ (.int .i64 d5.op)).setCell ⟨g, k * 6 + 1, none⟩ (.int .i64 d5.k)).setCell ⟨g, k * 6 + 2, none⟩ (.int .i64 d5.n)).setCell ⟨g, k * 6 + 3, none⟩ (.string d5.s)).setCell ⟨g, k * 6 + 4, none⟩ (.string d5.nm)).setCell ⟨g, k * 6 + 5, none⟩ (.slice B5 m5 c5)) := by
  have hl := h.len
  have hg := h.own.lt g rfl
  have hgB : B3 ≠ g := fun e => h.hv (by rw [e]; rfl)
  have hs := hb.size
  have kp : ∀ b, b ≠ g → b < wr.heap.size → ((((((w5.setCell ⟨g, k * 6, none⟩ (.int .i64 d5.op)).setCell ⟨g, k * 6 + 1, none⟩ (.int .i64 d5.k)).setCell ⟨g, k * 6 + 2, none⟩ (.int .i64 d5.n)).setCell ⟨g, k * 6 + 3, none⟩ (.string d5.s)).setCell ⟨g, k * 6 + 4, none⟩ (.string d5.nm)).setCell ⟨g, k * 6 + 5, none⟩ (.slice B5 m5 c5)).heap[b]? = wr.heap[b]? := fun b hne hlt => (set6_block hne _ _ _ _ _ _).trans (hb.block b hlt)
  have hge : ∀ b : Nat, b ≠ g → some b ≠ (Value.slice (some ⟨g, 0, none⟩) l.length cap).ownBlock := fun b hne e => hne (by have e2 : some b = some g := e; injection e2)
  have hbz := (Array.getElem?_eq_some_iff.1 h.bz).1
  refine ⟨hk, set_ex h.ex hk _ rfl, ?_, ?_, ?_, ?_, h.hz, h.hv, ?_⟩
  · exact set_el (own_below h.own hb) (by omega) ⟨f l[k], d5, B5, m5, c5⟩
  · intro e he
    rcases List.mem_or_eq_of_mem_set he with he | he
    · refine IsP.keep (fun b hb2 hlt => kp b (fun e => hb2.2 (by rw [e]; rfl)) hlt) (fun b hb2 _ => hb2) _ _ _ _ (h.is e he)
    · subst he
      refine IsP.keep (fun b hb2 hlt => set6_block (fun e => ?_) _ _ _ _ _ _) (fun b hb2 _ => ⟨?_, hge b ?_⟩) _ _ _ _ hi
      · have : wr.heap.size ≤ b := hb2
        omega
      · have : wr.heap.size ≤ b := hb2
        omega
      · have : wr.heap.size ≤ b := hb2
        omega
  · exact ⟨(kp _ (by omega) h.bx.b0.lt).trans h.bx.b0, (kp _ (by omega) h.bx.b1.lt).trans h.bx.b1, (kp _ (by omega) h.bx.b2.lt).trans h.bx.b2⟩
  · exact (kp _ hgB hbz).trans h.bz
  · exact set6_below (h.below.trans (hb.mono h.below.size)) (by omega) _ _ _ _ _ _
theorem SInv.fin {w : World} {f : Ex → Ex} {d dy : Nd} {l : List Ex} {A Ay : Option Addr} {c my cy B3 : Nat} {v : Value} {es : List El} {wr : World} (h : SInv w f d dy l A Ay c my cy B3 v l.length es wr) (hs : d.s.size ≤ maxLen) (hn : d.nm.size ≤ maxLen) :
    ∃ A2 c2, v = .slice A2 l.length c2 ∧ IsP (fun b => w.heap.size + 3 ≤ b) wr (.mk d (l.map f)) d A2 l.length := by
  have hx : es.map El.x = l.map f := by rw [h.ex, List.take_length, List.drop_length, List.append_nil]
  have hk : Kept (w.heap.size + 3) d (l.map f) es v wr := ⟨hx, by rw [h.len]; exact h.own, h.is⟩
  obtain ⟨A2, c2, hv, hi⟩ := hk.isP hs hn
  rw [List.length_map] at hv hi
  exact ⟨A2, c2, hv, hi⟩

theorem made_of {x : Ex} {d : Nd} {A : Option Addr} {n : Nat} {w0 w w' : World} {e : Ending} (hi : Is w0 x d A n) (h : CopyOut x.d x.args w e w') : Made x w e w' := by
  have e1 : x = .mk x.d x.args := by cases x; rfl
  have hz : x.d.s.size ≤ maxLen ∧ x.d.nm.size ≤ maxLen := by
    rw [e1, is_mk] at hi; exact hi.2.2.1.2
  rw [e1]
  exact h.made hz.1 hz.2

end Go.Proofs.YtdlfhldboagbeaaGreatDoor.NmS
