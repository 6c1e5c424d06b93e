/- The reference's swapped, NamesPut. -/
import Derived.Test.YtlceojdnmoekcaaDoorNmRef
import Derived.Test.YtlceojdnmoekcaaDoorExRef
import Derived.Deep.RegionHeld3
import Derived.Deep.QuietTactic
import Derived.Deep.RegionWith
import Derived.Deep.RegionLaw
import Derived.Deep.DrawnRows
import Derived.BigQuiet
namespace Go.Proofs.YtlceojdnmoekcaaDoor.NmS
open Go.RowKit
open ExM NmM Kit ExL ExP ExV ExN NmC NmP NmR
set_option linter.unusedVariables false

theorem elC_append (a b : List El) : elC (a ++ b) = elC a ++ elC b := by unfold elC; rw [List.flatMap_append]
theorem elC_cons (e : El) (l : List El) : elC (e :: l) = e.cells ++ elC l := by unfold elC; rw [List.flatMap_cons]
theorem el_cells (e : El) : e.cells = [.int .i64 e.d.op, .int .i64 e.d.k, .int .i64 e.d.n, .string e.d.s, .string e.d.nm, .slice e.A e.n e.c] := rfl
/-- The row behind a store of one element. -/
theorem set_el {w : World} {base g n cap k : Nat} {es : List El} {t : TypeId} (h : w.ownsRow base t 6 (.slice (some ⟨g, 0, none⟩) n cap) n (elC es)) (hk : k < es.length) (e : El) :
    ((((((w.setCell ⟨g, k * 6, none⟩ (.int .i64 e.d.op)).setCell ⟨g, k * 6 + 1, none⟩ (.int .i64 e.d.k)).setCell ⟨g, k * 6 + 2, none⟩ (.int .i64 e.d.n)).setCell ⟨g, k * 6 + 3, none⟩ (.string e.d.s)).setCell ⟨g, k * 6 + 4, none⟩ (.string e.d.nm)).setCell ⟨g, k * 6 + 5, none⟩ (.slice e.A e.n e.c)).ownsRow base t 6 (.slice (some ⟨g, 0, none⟩) n cap) n (elC (es.set k e)) := by
  have e1 : elC es = elC (es.take k) ++ elC (es.drop k) := by rw [← elC_append, List.take_append_drop]
  have e2 : es.drop k = es[k] :: es.drop (k + 1) := List.drop_eq_getElem_cons hk
  have e3 : (elC (es.drop k)).drop 6 = elC (es.drop (k + 1)) := by
    rw [e2, elC_cons]; exact List.drop_left' (by rfl)
  have e4 : elC (es.set k e) = (elC (es.take k) ++ [.int .i64 e.d.op, .int .i64 e.d.k, .int .i64 e.d.n, .string e.d.s, .string e.d.nm, .slice e.A e.n e.c]) ++ (elC (es.drop k)).drop 6 := by
    rw [e3, List.set_eq_take_append_cons_drop, if_pos hk, elC_append, elC_cons, el_cells, List.append_assoc]
  rw [e4]
  rw [e1] at h
  refine set6_own h ?_ ?_ _ _ _ _ _ _
  · rw [elC_len, List.length_take]; omega
  · rw [elC_len, List.length_drop]; omega
theorem set_ex {l : List Ex} {es : List El} {f : Ex → Ex} {k : Nat} (h : es.map El.x = (l.take k).map f ++ l.drop k) (hk : k < l.length) (e : El) (he : e.x = f l[k]) : (es.set k e).map El.x = (l.take (k + 1)).map f ++ l.drop (k + 1) := by
  have hl : es.length = l.length := by
    have := congrArg List.length h
    simp at this; omega
  rw [List.map_set, h, he, take_at l k hk, List.map_append]
  have : k = ((l.take k).map f).length := by rw [List.length_map, List.length_take]; omega
  rw [List.set_append_right _ _ (by omega), show k - ((l.take k).map f).length = 0 by omega, List.drop_eq_getElem_cons hk, List.set_cons_zero, List.append_assoc]
  rfl

/-- Between two elements. -/
structure SInv (w : World) (f : Ex → Ex) (d dy : Nd) (l : List Ex) (A Ay : Option Addr) (c my cy B3 : Nat) (v : Value) (k : Nat) (es : List El) (wr : World) : Prop where
  le : k ≤ l.length
  ex : es.map El.x = (l.take k).map f ++ l.drop k
  own : wr.ownsRow (w.heap.size + 3) 26 6 v l.length (elC es)
  is : ∀ e ∈ es, IsP (fun b => w.heap.size + 3 ≤ b ∧ some b ≠ v.ownBlock) wr e.x e.d e.A e.n
  bx : Bx3 w d dy A Ay l.length c my cy wr
  bz : wr.heap[B3]? = some (.cells #[.int .i64 d.op, .int .i64 d.k, .int .i64 d.n, .string d.s, .string d.nm, v] 26 (0, 0))
  hz : w.heap.size + 3 ≤ B3
  hv : some B3 ≠ v.ownBlock
  below : Below w.heap.size w wr
theorem SInv.len {w : World} {f : Ex → Ex} {d dy : Nd} {l : List Ex} {A Ay : Option Addr} {c my cy B3 : Nat} {v : Value} {k : Nat} {es : List El} {wr : World} (h : SInv w f d dy l A Ay c my cy B3 v k es wr) : es.length = l.length := by
  have := congrArg List.length h.ex
  have hk := h.le
  simp at this; omega
theorem SInv.step {w : World} {f : Ex → Ex} {d dy : Nd} {l : List Ex} {A Ay : Option Addr} {c my cy B3 g cap : Nat} {k : Nat} {es : List El} {wr w5 : World} {d5 : Nd} {B5 : Option Addr} {m5 c5 : Nat} (h : SInv w f d dy l A Ay c my cy B3 (.slice (some ⟨g, 0, none⟩) l.length cap) k es wr) (hk : k < l.length)
    (hi : IsP (fun b => wr.drew.heap.size ≤ b) w5 (f l[k]) d5 B5 m5) (hb : Below wr.heap.size wr w5) :
    SInv w f d dy l A Ay c my cy B3 (.slice (some ⟨g, 0, none⟩) l.length cap) (k + 1) (es.set k ⟨f l[k], d5, B5, m5, c5⟩) ((((((w5.setCell ⟨g, k * 6, none⟩ (.int .i64 d5.op)).setCell ⟨g, k * 6 + 1, none⟩ (.int .i64 d5.k)).setCell ⟨g, k * 6 + 2, none⟩ (.int .i64 d5.n)).setCell ⟨g, k * 6 + 3, none⟩ (.string d5.s)).setCell ⟨g, k * 6 + 4, none⟩ (.string d5.nm)).setCell ⟨g, k * 6 + 5, none⟩ (.slice B5 m5 c5)) := by
  have hl := h.len
  have hg := h.own.lt g rfl
  have hgB : B3 ≠ g := fun e => h.hv (by rw [e]; rfl)
  have hs := hb.size
  have kp : ∀ b, b ≠ g → b < wr.heap.size → ((((((w5.setCell ⟨g, k * 6, none⟩ (.int .i64 d5.op)).setCell ⟨g, k * 6 + 1, none⟩ (.int .i64 d5.k)).setCell ⟨g, k * 6 + 2, none⟩ (.int .i64 d5.n)).setCell ⟨g, k * 6 + 3, none⟩ (.string d5.s)).setCell ⟨g, k * 6 + 4, none⟩ (.string d5.nm)).setCell ⟨g, k * 6 + 5, none⟩ (.slice B5 m5 c5)).heap[b]? = wr.heap[b]? := fun b hne hlt => (set6_block hne _ _ _ _ _ _).trans (hb.block b hlt)
  have hge : ∀ b : Nat, b ≠ g → some b ≠ (Value.slice (some ⟨g, 0, none⟩) l.length cap).ownBlock := fun b hne e => hne (by have e2 : some b = some g := e; injection e2)
  have hbz := (Array.getElem?_eq_some_iff.1 h.bz).1
  refine ⟨hk, set_ex h.ex hk _ rfl, ?_, ?_, ?_, ?_, h.hz, h.hv, ?_⟩
  · exact set_el (own_below h.own hb) (by omega) ⟨f l[k], d5, B5, m5, c5⟩
  · intro e he
    rcases List.mem_or_eq_of_mem_set he with he | he
    · refine IsP.keep (fun b hb2 hlt => kp b (fun e => hb2.2 (by rw [e]; rfl)) hlt) (fun b hb2 _ => hb2) _ _ _ _ (h.is e he)
    · subst he
      refine IsP.keep (fun b hb2 hlt => set6_block (fun e => ?_) _ _ _ _ _ _) (fun b hb2 _ => ⟨?_, hge b ?_⟩) _ _ _ _ hi
      · have : wr.heap.size ≤ b := hb2
        omega
      · have : wr.heap.size ≤ b := hb2
        omega
      · have : wr.heap.size ≤ b := hb2
        omega
  · exact ⟨(kp _ (by omega) h.bx.b0.lt).trans h.bx.b0, (kp _ (by omega) h.bx.b1.lt).trans h.bx.b1, (kp _ (by omega) h.bx.b2.lt).trans h.bx.b2⟩
  · exact (kp _ hgB hbz).trans h.bz
  · exact set6_below (h.below.trans (hb.mono h.below.size)) (by omega) _ _ _ _ _ _
theorem SInv.fin {w : World} {f : Ex → Ex} {d dy : Nd} {l : List Ex} {A Ay : Option Addr} {c my cy B3 : Nat} {v : Value} {es : List El} {wr : World} (h : SInv w f d dy l A Ay c my cy B3 v l.length es wr) (hs : d.s.size ≤ maxLen) (hn : d.nm.size ≤ maxLen) :
    ∃ A2 c2, v = .slice A2 l.length c2 ∧ IsP (fun b => w.heap.size + 3 ≤ b) wr (.mk d (l.map f)) d A2 l.length := by
  have hx : es.map El.x = l.map f := by rw [h.ex, List.take_length, List.drop_length, List.append_nil]
  have hk : Kept (w.heap.size + 3) d (l.map f) es v wr := ⟨hx, by rw [h.len]; exact h.own, h.is⟩
  obtain ⟨A2, c2, hv, hi⟩ := hk.isP hs hn
  rw [List.length_map] at hv hi
  exact ⟨A2, c2, hv, hi⟩

def SwapAt (n : ByteArray) (y : Ex) (x : Ex) : Prop := ∀ (d dy : Nd) (A Ay : Option Addr) (m c my cy : Nat) (w : World), Is w x d A m → Is w y dy Ay my →
  Calls Tryd.prog 38 #[.agg #[.int .i64 d.op, .int .i64 d.k, .int .i64 d.n, .string d.s, .string d.nm, .slice A m c], .string n, .agg #[.int .i64 dy.op, .int .i64 dy.k, .int .i64 dy.n, .string dy.s, .string dy.nm, .slice Ay my cy]] w (Made (Ex.put n y x) w)
theorem made_of {x : Ex} {d : Nd} {A : Option Addr} {n : Nat} {w0 w w' : World} {e : Ending} (hi : Is w0 x d A n) (h : CopyOut x.d x.args w e w') : Made x w e w' := by
  have e1 : x = .mk x.d x.args := by cases x; rfl
  have hz : x.d.s.size ≤ maxLen ∧ x.d.nm.size ≤ maxLen := by
    rw [e1, is_mk] at hi; exact hi.2.2.1.2
  rw [e1]
  exact h.made hz.1 hz.2

set_option maxHeartbeats 20000000 in
set_option maxRecDepth 100000 in
theorem swap_any (n : ByteArray) (y : Ex) (hy8 : y.nodes ≤ 1048576) : ∀ x : Ex, x.nodes ≤ 1048576 → SwapAt n y x := by
  refine Ex.ind fun d l ih => ?_
  intro hx8 d' dy A Ay m c my cy w his hiy
  have his0 := his
  rw [is_mk] at his
  obtain ⟨rfl, rfl, ⟨hm, hs1, hs2⟩, his⟩ := his
  have hx9 := hx8
  rw [nodes_mk] at hx8
  have hlen := len_nodesL l
  by_cases h : d'.op = 2 ∧ d'.nm = n
  · rw [put_pos n y d' l h]
    obtain ⟨h1, h2⟩ := h
    have hc := fun V (hb : Below w.heap.size w V) => (refCopy_any y dy Ay my cy V hy8 (hiy.below hb)).mono (R' := Made y V) fun e w' h => made_of hiy h
    have HC := Lib.hid hc
    have t1 : (d'.nm.toList == n.toList) = true := by rw [eqs_of]; exact decide_eq_true h2
    have t0 : (d'.op == 2) = true := beq_iff_eq.2 h1
    clear hc ih his his0 hx8 hx9 hy8 hlen hs1 hs2 hm hiy h2 h1
    have k0 := bx3_new w d' dy A Ay l.length c my cy
    go_enter Tryd.func38, Tryd.ntmps38
    go_wp2_with fail
    refine (HC.out _ (b_more (b_more (b_new w _) _) _)).mono ?_; rintro e w1 ⟨d1, B1, m1, c1, rfl, hi, hb⟩
    obtain ⟨q0, q1, q2, q3⟩ := (k0.below hb).cells
    have hbw : Below w.heap.size w w1 := b_then (b_then (b_then hb))
    have HX := Lib.hid (And.intro hi hbw)
    clear hi hb hbw q0 q1 t1 t0 k0
    go_wp2_with fail
    refine bodyPost_ret (v := .agg #[.int .i64 d1.op, .int .i64 d1.k, .int .i64 d1.n, .string d1.s, .string d1.nm, .slice B1 m1 c1]) (by simp [results, Tryd.results38, go_sem, q2]) rfl ?_
    refine ⟨d1, B1, m1, c1, rfl, ?_, ?_⟩
    · exact IsP.keep (P := fun b => w.heap.size + 3 ≤ b) (w := w1) (fun b hb hl => set6_block (i := 0) (by omega) _ _ _ _ _ _) (fun b hb hl => by omega) _ _ _ _ (by have := HX.out.1; simpa using this)
    · exact set6_below (i := 0) HX.out.2 (by omega) _ _ _ _ _ _
  · rw [put_neg n y d' l h]
    have hc := fun V (hb : Below w.heap.size w V) => refCopy_any (.mk d' l) d' A l.length c V hx9 (his0.below hb)
    have hih : ∀ (k : Nat) (hk : k < l.length), SwapAt n y l[k] := fun k hk => ih _ (List.getElem_mem hk) (by have := nodes_mem (List.getElem_mem hk); omega)
    have HC := Lib.hid hc
    have HH := Lib.hid hih
    have HS := Lib.hid his
    have HY := Lib.hid hiy
    have HS1 := Lib.hid hs1
    have HS2 := Lib.hid hs2
    have HM := Lib.hid hm
    have hl8 : l.length ≤ 1048576 := by omega
    clear hc hih ih his his0 hx8 hx9 hy8 hlen hs1 hs2 hm hiy
    by_cases h1 : d'.op = 2
    · have t1 : (d'.nm.toList == n.toList) = false := by rw [eqs_of]; exact decide_eq_false fun e => h ⟨h1, e⟩
      have t0 : (d'.op == 2) = true := beq_iff_eq.2 h1
      clear h h1
      have k0 := bx3_new w d' dy A Ay l.length c my cy
      go_enter Tryd.func38, Tryd.ntmps38
      go_wp2_with fail
      refine (HC.out _ (b_more (b_more (b_new w _) _) _)).mono ?_; rintro e w1 ⟨es0, v, rfl, ⟨hk1, hk2, hk3⟩, hb⟩
      have k1 := k0.below hb
      obtain ⟨q0, q1, q2, q3⟩ := k1.cells
      have hes : es0.length = l.length := by have := congrArg List.length hk1; rwa [List.length_map] at this
      have hsz : (((w.alloc (.cells #[.int .i64 d'.op, .int .i64 d'.k, .int .i64 d'.n, .string d'.s, .string d'.nm, .slice A l.length c] 26)).alloc (.cells #[.int .i64 dy.op, .int .i64 dy.k, .int .i64 dy.n, .string dy.s, .string dy.nm, .slice Ay my cy] 26)).alloc (.cells #[.int .i64 0, .int .i64 0, .int .i64 0, .string ⟨#[]⟩, .string ⟨#[]⟩, .slice none 0 0] 26)).heap.size = w.heap.size + 3 := by simp
      rw [hsz] at hk2 hk3
      have hw3 : w.heap.size + 3 ≤ w1.heap.size := by have := hb.size; rw [hsz] at this; exact this
      have hbw : Below w.heap.size w w1 := b_then (b_then (b_then hb))
      have hSI : ∀ o, o = Obj.cells #[.int .i64 d'.op, .int .i64 d'.k, .int .i64 d'.n, .string d'.s, .string d'.nm, v] 26 → SInv w (Ex.put n y) d' dy l A Ay c my cy w1.heap.size v 0 es0 (w1.alloc o) := fun o ho => by
        subst ho
        refine ⟨Nat.zero_le _, by rw [hk1]; simp; rfl, by rw [← hes]; exact hk2.alloc _, fun e he => (hk3 e he).below (b_new _ _), k1.below (b_new _ _), World.alloc_heap_new w1 _, hw3, fun e => ?_, b_more hbw _⟩
        have := (hk2.lt _ e.symm).2; omega
      have HSI := Lib.hid (hSI _ rfl)
      obtain ⟨Av, cv, hv⟩ := own_slice hk2
      rw [hes] at hv
      subst hv
      clear hSI hk1 hk2 hk3 hb k1 k0 hsz hes
      go_wp2_with fail
      go_loopw [8, 25] (fun _ i wr => ∃ (k : Nat) (es : List El), i = .int .i64 k ∧ SInv w (Ex.put n y) d' dy l A Ay c my cy w1.heap.size (.slice Av l.length cv) k es wr) (fun _ i _ => l.length - (intOf i).toNat)
      case atStart => exact ⟨0, es0, rfl, HSI.out⟩
      case round =>
        obtain ⟨k, es, rfl, hI⟩ := hrel
        have hle := hI.le
        have HI := Lib.hid hI
        by_cases hlt : k < l.length
        · obtain ⟨a, d2, B2, m2, c2, rfl, hat, hi2⟩ := HS.out k hlt
          obtain ⟨g, cap, hv, hg3, hgl, hgc, hcm, hcl⟩ := own_form hI.own (by omega)
          injection hv with hv1 hv2 hv3
          subst hv1 hv3
          have hbz := hI.bz
          have z5 : wr.cell? ⟨w1.heap.size, 5, none⟩ = some (.slice (some ⟨g, 0, none⟩) l.length cv) := by simp [World.cell?, hbz]
          obtain ⟨x0, y0, _, _⟩ := hI.bx.cells
          have x5 := x0 5
          have y0' := y0 0
          have y1' := y0 1
          have y2' := y0 2
          have y3' := y0 3
          have y4' := y0 4
          have y5' := y0 5
          simp at x5 y0' y1' y2' y3' y4' y5'
          obtain ⟨f0, f1, f2, f3, f4, f5⟩ := hat.below hI.below
          have hal := cell_lt' f0
          have haw : a.block < w.heap.size := by have := hat.lt; rwa [block_of_add] at this
          have hzg : w1.heap.size ≠ g := fun e => hI.hv (by rw [e]; rfl)
          have hbx := hI.bx
          have l0 := hbx.b0.lt
          have l1 := hbx.b1.lt
          have lz := (Array.getElem?_eq_some_iff.1 hbz).1
          have hen : (elC es).length = l.length * 6 := hI.own.1
          have gc := fun j (hj : j < l.length * 6) => (hcl j hj).trans (List.getElem?_eq_getElem (by omega))
          have g0 := gc (k * 6) (by omega)
          have g1 := gc (k * 6 + 1) (by omega)
          have g2 := gc (k * 6 + 2) (by omega)
          have g3 := gc (k * 6 + 3) (by omega)
          have g4 := gc (k * 6 + 4) (by omega)
          have g5 := gc (k * 6 + 5) (by omega)
          have gz := hI.own.frozenAt
          obtain ⟨v0, hv0⟩ : ∃ v, (elC es)[k * 6]'(by omega) = v := ⟨_, rfl⟩
          obtain ⟨v1, hv1⟩ : ∃ v, (elC es)[k * 6 + 1]'(by omega) = v := ⟨_, rfl⟩
          obtain ⟨v2, hv2⟩ : ∃ v, (elC es)[k * 6 + 2]'(by omega) = v := ⟨_, rfl⟩
          obtain ⟨v3, hv3⟩ : ∃ v, (elC es)[k * 6 + 3]'(by omega) = v := ⟨_, rfl⟩
          obtain ⟨v4, hv4⟩ : ∃ v, (elC es)[k * 6 + 4]'(by omega) = v := ⟨_, rfl⟩
          obtain ⟨v5, hv5⟩ : ∃ v, (elC es)[k * 6 + 5]'(by omega) = v := ⟨_, rfl⟩
          rw [hv0] at g0
          rw [hv1] at g1
          rw [hv2] at g2
          rw [hv3] at g3
          rw [hv4] at g4
          rw [hv5] at g5
          have HGc := Lib.hid (show ∀ V, Below wr.heap.size wr V → (V.cell? ⟨g, k * 6, none⟩ = some v0 ∧ V.cell? ⟨g, k * 6 + 1, none⟩ = some v1 ∧ V.cell? ⟨g, k * 6 + 2, none⟩ = some v2 ∧ V.cell? ⟨g, k * 6 + 3, none⟩ = some v3 ∧ V.cell? ⟨g, k * 6 + 4, none⟩ = some v4 ∧ V.cell? ⟨g, k * 6 + 5, none⟩ = some v5) ∧ ∀ j, V.frozen? ⟨g, j, none⟩ = false from fun V hV =>
            ⟨⟨(hV.cell (p := ⟨g, k * 6, none⟩) hgl).trans g0, (hV.cell (p := ⟨g, k * 6 + 1, none⟩) hgl).trans g1, (hV.cell (p := ⟨g, k * 6 + 2, none⟩) hgl).trans g2, (hV.cell (p := ⟨g, k * 6 + 3, none⟩) hgl).trans g3, (hV.cell (p := ⟨g, k * 6 + 4, none⟩) hgl).trans g4, (hV.cell (p := ⟨g, k * 6 + 5, none⟩) hgl).trans g5⟩, fun j => (hV.frozen (p := ⟨g, j, none⟩) hgl).trans (gz j)⟩)
          have HCells := Lib.hid (show ∀ V, Below wr.heap.size wr V → (V.cell? ⟨w1.heap.size, 5, none⟩ = some (.slice (some ⟨g, 0, none⟩) l.length cv) ∧ V.cell? ⟨w.heap.size, 5, none⟩ = some (.slice (some a) l.length c) ∧ V.cell? (a.add (k * 6)) = some (.int .i64 d2.op) ∧ V.cell? ⟨(a.add (k * 6)).block, (a.add (k * 6)).off + 1, none⟩ = some (.int .i64 d2.k) ∧ V.cell? ⟨(a.add (k * 6)).block, (a.add (k * 6)).off + 2, none⟩ = some (.int .i64 d2.n) ∧ V.cell? ⟨(a.add (k * 6)).block, (a.add (k * 6)).off + 3, none⟩ = some (.string d2.s) ∧ V.cell? ⟨(a.add (k * 6)).block, (a.add (k * 6)).off + 4, none⟩ = some (.string d2.nm) ∧ V.cell? ⟨(a.add (k * 6)).block, (a.add (k * 6)).off + 5, none⟩ = some (.slice B2 m2 c2) ∧ V.cell? ⟨w.heap.size + 1, 0, none⟩ = some (.int .i64 dy.op) ∧ V.cell? ⟨w.heap.size + 1, 1, none⟩ = some (.int .i64 dy.k) ∧ V.cell? ⟨w.heap.size + 1, 2, none⟩ = some (.int .i64 dy.n) ∧ V.cell? ⟨w.heap.size + 1, 3, none⟩ = some (.string dy.s) ∧ V.cell? ⟨w.heap.size + 1, 4, none⟩ = some (.string dy.nm) ∧ V.cell? ⟨w.heap.size + 1, 5, none⟩ = some (.slice Ay my cy)) from fun V hV =>
            ⟨(hV.cell (p := ⟨w1.heap.size, 5, none⟩) lz).trans z5, (hV.cell (p := ⟨w.heap.size, 5, none⟩) l0).trans x5, (hV.cell hal).trans f0, (hV.cell (p := ⟨(a.add (k * 6)).block, (a.add (k * 6)).off + 1, none⟩) hal).trans f1, (hV.cell (p := ⟨(a.add (k * 6)).block, (a.add (k * 6)).off + 2, none⟩) hal).trans f2, (hV.cell (p := ⟨(a.add (k * 6)).block, (a.add (k * 6)).off + 3, none⟩) hal).trans f3, (hV.cell (p := ⟨(a.add (k * 6)).block, (a.add (k * 6)).off + 4, none⟩) hal).trans f4, (hV.cell (p := ⟨(a.add (k * 6)).block, (a.add (k * 6)).off + 5, none⟩) hal).trans f5,
              (hV.cell (p := ⟨w.heap.size + 1, 0, none⟩) l1).trans y0', (hV.cell (p := ⟨w.heap.size + 1, 1, none⟩) l1).trans y1', (hV.cell (p := ⟨w.heap.size + 1, 2, none⟩) l1).trans y2', (hV.cell (p := ⟨w.heap.size + 1, 3, none⟩) l1).trans y3', (hV.cell (p := ⟨w.heap.size + 1, 4, none⟩) l1).trans y4', (hV.cell (p := ⟨w.heap.size + 1, 5, none⟩) l1).trans y5'⟩)
          have HSet := Lib.hid (show ∀ U u0 u1 u2 u3 u4 u5, Below wr.heap.size wr U → ∀ V, V = ((((((U.setCell ⟨g, k * 6, none⟩ u0).setCell ⟨g, k * 6 + 1, none⟩ u1).setCell ⟨g, k * 6 + 2, none⟩ u2).setCell ⟨g, k * 6 + 3, none⟩ u3).setCell ⟨g, k * 6 + 4, none⟩ u4).setCell ⟨g, k * 6 + 5, none⟩ u5) → (V.cell? ⟨w1.heap.size, 5, none⟩ = some (.slice (some ⟨g, 0, none⟩) l.length cv) ∧ V.cell? ⟨w.heap.size, 5, none⟩ = some (.slice (some a) l.length c) ∧ V.cell? (a.add (k * 6)) = some (.int .i64 d2.op) ∧ V.cell? ⟨(a.add (k * 6)).block, (a.add (k * 6)).off + 1, none⟩ = some (.int .i64 d2.k) ∧ V.cell? ⟨(a.add (k * 6)).block, (a.add (k * 6)).off + 2, none⟩ = some (.int .i64 d2.n) ∧ V.cell? ⟨(a.add (k * 6)).block, (a.add (k * 6)).off + 3, none⟩ = some (.string d2.s) ∧ V.cell? ⟨(a.add (k * 6)).block, (a.add (k * 6)).off + 4, none⟩ = some (.string d2.nm) ∧ V.cell? ⟨(a.add (k * 6)).block, (a.add (k * 6)).off + 5, none⟩ = some (.slice B2 m2 c2) ∧ V.cell? ⟨w.heap.size + 1, 0, none⟩ = some (.int .i64 dy.op) ∧ V.cell? ⟨w.heap.size + 1, 1, none⟩ = some (.int .i64 dy.k) ∧ V.cell? ⟨w.heap.size + 1, 2, none⟩ = some (.int .i64 dy.n) ∧ V.cell? ⟨w.heap.size + 1, 3, none⟩ = some (.string dy.s) ∧ V.cell? ⟨w.heap.size + 1, 4, none⟩ = some (.string dy.nm) ∧ V.cell? ⟨w.heap.size + 1, 5, none⟩ = some (.slice Ay my cy)) from fun U u0 u1 u2 u3 u4 u5 hU V hV6 => by
            subst hV6
            obtain ⟨s0, s1, s2, s3, s4, s5, s6, s7, s8, s9, s10, s11, s12, s13⟩ := HCells.out U hU
            have hgB : w1.heap.size ≠ g := hzg
            have hga : (a.add (k * 6)).block ≠ g := by rw [block_of_add]; omega
            have hg0 : w.heap.size ≠ g := by omega
            have hg1 : w.heap.size + 1 ≠ g := by omega
            have q := fun (p : Addr) (h : p.block ≠ g) => World.cell?_of_block (a := p) (set6_block (w := U) (i := k * 6) h u0 u1 u2 u3 u4 u5)
            exact ⟨(q ⟨w1.heap.size, 5, none⟩ hgB).trans s0, (q ⟨w.heap.size, 5, none⟩ hg0).trans s1, (q _ hga).trans s2, (q ⟨(a.add (k * 6)).block, (a.add (k * 6)).off + 1, none⟩ hga).trans s3, (q ⟨(a.add (k * 6)).block, (a.add (k * 6)).off + 2, none⟩ hga).trans s4, (q ⟨(a.add (k * 6)).block, (a.add (k * 6)).off + 3, none⟩ hga).trans s5, (q ⟨(a.add (k * 6)).block, (a.add (k * 6)).off + 4, none⟩ hga).trans s6, (q ⟨(a.add (k * 6)).block, (a.add (k * 6)).off + 5, none⟩ hga).trans s7, (q ⟨w.heap.size + 1, 0, none⟩ hg1).trans s8, (q ⟨w.heap.size + 1, 1, none⟩ hg1).trans s9, (q ⟨w.heap.size + 1, 2, none⟩ hg1).trans s10, (q ⟨w.heap.size + 1, 3, none⟩ hg1).trans s11, (q ⟨w.heap.size + 1, 4, none⟩ hg1).trans s12, (q ⟨w.heap.size + 1, 5, none⟩ hg1).trans s13⟩)
          have hck := fun V (hV : Below wr.heap.size wr V) => HH.out k hlt d2 dy B2 Ay m2 c2 my cy V ((hi2.below hI.below).below hV) ((HY.out.below hI.below).below hV)
          have HCk := Lib.hid hck
          have hbl : Below wr.heap.size wr wr := Below.refl _ _
          clear hI hat hi2 hbz x0 y0 gc g0 g1 g2 g3 g4 g5 gz hv0 hv1 hv2 hv3 hv4 hv5 hck hbx hen hcl hzg haw
          go_wp2_with fail
          go_region_held3 (fun V => (V.cell? ⟨w1.heap.size, 5, none⟩ = some (.slice (some ⟨g, 0, none⟩) l.length cv) ∧ V.cell? ⟨w.heap.size, 5, none⟩ = some (.slice (some a) l.length c) ∧ V.cell? (a.add (k * 6)) = some (.int .i64 d2.op) ∧ V.cell? ⟨(a.add (k * 6)).block, (a.add (k * 6)).off + 1, none⟩ = some (.int .i64 d2.k) ∧ V.cell? ⟨(a.add (k * 6)).block, (a.add (k * 6)).off + 2, none⟩ = some (.int .i64 d2.n) ∧ V.cell? ⟨(a.add (k * 6)).block, (a.add (k * 6)).off + 3, none⟩ = some (.string d2.s) ∧ V.cell? ⟨(a.add (k * 6)).block, (a.add (k * 6)).off + 4, none⟩ = some (.string d2.nm) ∧ V.cell? ⟨(a.add (k * 6)).block, (a.add (k * 6)).off + 5, none⟩ = some (.slice B2 m2 c2) ∧ V.cell? ⟨w.heap.size + 1, 0, none⟩ = some (.int .i64 dy.op) ∧ V.cell? ⟨w.heap.size + 1, 1, none⟩ = some (.int .i64 dy.k) ∧ V.cell? ⟨w.heap.size + 1, 2, none⟩ = some (.int .i64 dy.n) ∧ V.cell? ⟨w.heap.size + 1, 3, none⟩ = some (.string dy.s) ∧ V.cell? ⟨w.heap.size + 1, 4, none⟩ = some (.string dy.nm) ∧ V.cell? ⟨w.heap.size + 1, 5, none⟩ = some (.slice Ay my cy))) (first | (with_reducible exact HCells.out _ hbl) | (with_reducible exact HCells.out _ (b_drew hbl)) | (with_reducible exact HSet.out _ _ _ _ _ _ _ hbl _ rfl)) (first | (go_at_call 38; (with_reducible refine (HCk.out _ ?_).mono ?_); (first | exact hbl | exact b_drew hbl); rintro e w5 ⟨d5, B5, m5, c5, rfl, hi5, hb5⟩; have hi6 := hi5.imp (Q := fun b => wr.drew.heap.size ≤ b) (fun b h1 h2 => h1); have hbl : Below wr.heap.size wr w5 := (by (first | (exact b_trans hbl hb5) | (exact b_trans (b_drew hbl) hb5))); obtain ⟨⟨p0, p1, p2, p3, p4, p5⟩, pz⟩ := HGc.out w5 hbl; have HX := Lib.hid (And.intro hi6 hbl); clear hi5 hi6 hb5))
          all_goals
            have hN := HI.out.step (d5 := d5) (B5 := B5) (m5 := m5) (c5 := c5) hlt HX.out.1 HX.out.2
            have HN := Lib.hid hN
            clear hN HX HCk HCells HGc HSet p0 p1 p2 p3 p4 p5 pz hbl
            go_wp2_with fail
            go_roundw
            case rel => exact ⟨k + 1, _, by go_num, HN.out⟩
            case measure => simp [intOf]; omega
        · have hkl : k = l.length := by omega
          subst hkl
          have hbz := hI.bz
          have hc8 : ∀ o, wr.cell? ⟨w1.heap.size, o, none⟩ = (#[.int .i64 d'.op, .int .i64 d'.k, .int .i64 d'.n, .string d'.s, .string d'.nm, .slice Av l.length cv] : Array Value)[o]? := fun o => by simp [World.cell?, hbz]
          obtain ⟨_, _, r2, r3⟩ := hI.bx.cells
          clear hI hbz
          go_wp2_with fail
          refine bodyPost_ret (v := .agg #[.int .i64 d'.op, .int .i64 d'.k, .int .i64 d'.n, .string d'.s, .string d'.nm, .slice Av l.length cv]) (by simp [results, Tryd.results38, go_sem, r2]) rfl ?_
          obtain ⟨A2, c2, hv, hi⟩ := HI.out.fin HS1.out HS2.out
          injection hv with hv1 hv2 hv3
          subst hv1 hv3
          refine ⟨d', Av, l.length, cv, rfl, ?_, set6_below (i := 0) HI.out.below (by omega) _ _ _ _ _ _⟩
          exact IsP.keep (fun b hb hl => set6_block (i := 0) (by omega) _ _ _ _ _ _) (fun b hb hl => by omega) _ _ _ _ hi
    · have t0 : (d'.op == 2) = false := beq_eq_false_iff_ne.2 h1
      clear h h1
      have k0 := bx3_new w d' dy A Ay l.length c my cy
      go_enter Tryd.func38, Tryd.ntmps38
      go_wp2_with fail
      refine (HC.out _ (b_more (b_more (b_new w _) _) _)).mono ?_; rintro e w1 ⟨es0, v, rfl, ⟨hk1, hk2, hk3⟩, hb⟩
      have k1 := k0.below hb
      obtain ⟨q0, q1, q2, q3⟩ := k1.cells
      have hes : es0.length = l.length := by have := congrArg List.length hk1; rwa [List.length_map] at this
      have hsz : (((w.alloc (.cells #[.int .i64 d'.op, .int .i64 d'.k, .int .i64 d'.n, .string d'.s, .string d'.nm, .slice A l.length c] 26)).alloc (.cells #[.int .i64 dy.op, .int .i64 dy.k, .int .i64 dy.n, .string dy.s, .string dy.nm, .slice Ay my cy] 26)).alloc (.cells #[.int .i64 0, .int .i64 0, .int .i64 0, .string ⟨#[]⟩, .string ⟨#[]⟩, .slice none 0 0] 26)).heap.size = w.heap.size + 3 := by simp
      rw [hsz] at hk2 hk3
      have hw3 : w.heap.size + 3 ≤ w1.heap.size := by have := hb.size; rw [hsz] at this; exact this
      have hbw : Below w.heap.size w w1 := b_then (b_then (b_then hb))
      have hSI : ∀ o, o = Obj.cells #[.int .i64 d'.op, .int .i64 d'.k, .int .i64 d'.n, .string d'.s, .string d'.nm, v] 26 → SInv w (Ex.put n y) d' dy l A Ay c my cy w1.heap.size v 0 es0 (w1.alloc o) := fun o ho => by
        subst ho
        refine ⟨Nat.zero_le _, by rw [hk1]; simp; rfl, by rw [← hes]; exact hk2.alloc _, fun e he => (hk3 e he).below (b_new _ _), k1.below (b_new _ _), World.alloc_heap_new w1 _, hw3, fun e => ?_, b_more hbw _⟩
        have := (hk2.lt _ e.symm).2; omega
      have HSI := Lib.hid (hSI _ rfl)
      obtain ⟨Av, cv, hv⟩ := own_slice hk2
      rw [hes] at hv
      subst hv
      clear hSI hk1 hk2 hk3 hb k1 k0 hsz hes
      go_wp2_with fail
      go_loopw [8, 25] (fun _ i wr => ∃ (k : Nat) (es : List El), i = .int .i64 k ∧ SInv w (Ex.put n y) d' dy l A Ay c my cy w1.heap.size (.slice Av l.length cv) k es wr) (fun _ i _ => l.length - (intOf i).toNat)
      case atStart => exact ⟨0, es0, rfl, HSI.out⟩
      case round =>
        obtain ⟨k, es, rfl, hI⟩ := hrel
        have hle := hI.le
        have HI := Lib.hid hI
        by_cases hlt : k < l.length
        · obtain ⟨a, d2, B2, m2, c2, rfl, hat, hi2⟩ := HS.out k hlt
          obtain ⟨g, cap, hv, hg3, hgl, hgc, hcm, hcl⟩ := own_form hI.own (by omega)
          injection hv with hv1 hv2 hv3
          subst hv1 hv3
          have hbz := hI.bz
          have z5 : wr.cell? ⟨w1.heap.size, 5, none⟩ = some (.slice (some ⟨g, 0, none⟩) l.length cv) := by simp [World.cell?, hbz]
          obtain ⟨x0, y0, _, _⟩ := hI.bx.cells
          have x5 := x0 5
          have y0' := y0 0
          have y1' := y0 1
          have y2' := y0 2
          have y3' := y0 3
          have y4' := y0 4
          have y5' := y0 5
          simp at x5 y0' y1' y2' y3' y4' y5'
          obtain ⟨f0, f1, f2, f3, f4, f5⟩ := hat.below hI.below
          have hal := cell_lt' f0
          have haw : a.block < w.heap.size := by have := hat.lt; rwa [block_of_add] at this
          have hzg : w1.heap.size ≠ g := fun e => hI.hv (by rw [e]; rfl)
          have hbx := hI.bx
          have l0 := hbx.b0.lt
          have l1 := hbx.b1.lt
          have lz := (Array.getElem?_eq_some_iff.1 hbz).1
          have hen : (elC es).length = l.length * 6 := hI.own.1
          have gc := fun j (hj : j < l.length * 6) => (hcl j hj).trans (List.getElem?_eq_getElem (by omega))
          have g0 := gc (k * 6) (by omega)
          have g1 := gc (k * 6 + 1) (by omega)
          have g2 := gc (k * 6 + 2) (by omega)
          have g3 := gc (k * 6 + 3) (by omega)
          have g4 := gc (k * 6 + 4) (by omega)
          have g5 := gc (k * 6 + 5) (by omega)
          have gz := hI.own.frozenAt
          obtain ⟨v0, hv0⟩ : ∃ v, (elC es)[k * 6]'(by omega) = v := ⟨_, rfl⟩
          obtain ⟨v1, hv1⟩ : ∃ v, (elC es)[k * 6 + 1]'(by omega) = v := ⟨_, rfl⟩
          obtain ⟨v2, hv2⟩ : ∃ v, (elC es)[k * 6 + 2]'(by omega) = v := ⟨_, rfl⟩
          obtain ⟨v3, hv3⟩ : ∃ v, (elC es)[k * 6 + 3]'(by omega) = v := ⟨_, rfl⟩
          obtain ⟨v4, hv4⟩ : ∃ v, (elC es)[k * 6 + 4]'(by omega) = v := ⟨_, rfl⟩
          obtain ⟨v5, hv5⟩ : ∃ v, (elC es)[k * 6 + 5]'(by omega) = v := ⟨_, rfl⟩
          rw [hv0] at g0
          rw [hv1] at g1
          rw [hv2] at g2
          rw [hv3] at g3
          rw [hv4] at g4
          rw [hv5] at g5
          have HGc := Lib.hid (show ∀ V, Below wr.heap.size wr V → (V.cell? ⟨g, k * 6, none⟩ = some v0 ∧ V.cell? ⟨g, k * 6 + 1, none⟩ = some v1 ∧ V.cell? ⟨g, k * 6 + 2, none⟩ = some v2 ∧ V.cell? ⟨g, k * 6 + 3, none⟩ = some v3 ∧ V.cell? ⟨g, k * 6 + 4, none⟩ = some v4 ∧ V.cell? ⟨g, k * 6 + 5, none⟩ = some v5) ∧ ∀ j, V.frozen? ⟨g, j, none⟩ = false from fun V hV =>
            ⟨⟨(hV.cell (p := ⟨g, k * 6, none⟩) hgl).trans g0, (hV.cell (p := ⟨g, k * 6 + 1, none⟩) hgl).trans g1, (hV.cell (p := ⟨g, k * 6 + 2, none⟩) hgl).trans g2, (hV.cell (p := ⟨g, k * 6 + 3, none⟩) hgl).trans g3, (hV.cell (p := ⟨g, k * 6 + 4, none⟩) hgl).trans g4, (hV.cell (p := ⟨g, k * 6 + 5, none⟩) hgl).trans g5⟩, fun j => (hV.frozen (p := ⟨g, j, none⟩) hgl).trans (gz j)⟩)
          have HCells := Lib.hid (show ∀ V, Below wr.heap.size wr V → (V.cell? ⟨w1.heap.size, 5, none⟩ = some (.slice (some ⟨g, 0, none⟩) l.length cv) ∧ V.cell? ⟨w.heap.size, 5, none⟩ = some (.slice (some a) l.length c) ∧ V.cell? (a.add (k * 6)) = some (.int .i64 d2.op) ∧ V.cell? ⟨(a.add (k * 6)).block, (a.add (k * 6)).off + 1, none⟩ = some (.int .i64 d2.k) ∧ V.cell? ⟨(a.add (k * 6)).block, (a.add (k * 6)).off + 2, none⟩ = some (.int .i64 d2.n) ∧ V.cell? ⟨(a.add (k * 6)).block, (a.add (k * 6)).off + 3, none⟩ = some (.string d2.s) ∧ V.cell? ⟨(a.add (k * 6)).block, (a.add (k * 6)).off + 4, none⟩ = some (.string d2.nm) ∧ V.cell? ⟨(a.add (k * 6)).block, (a.add (k * 6)).off + 5, none⟩ = some (.slice B2 m2 c2) ∧ V.cell? ⟨w.heap.size + 1, 0, none⟩ = some (.int .i64 dy.op) ∧ V.cell? ⟨w.heap.size + 1, 1, none⟩ = some (.int .i64 dy.k) ∧ V.cell? ⟨w.heap.size + 1, 2, none⟩ = some (.int .i64 dy.n) ∧ V.cell? ⟨w.heap.size + 1, 3, none⟩ = some (.string dy.s) ∧ V.cell? ⟨w.heap.size + 1, 4, none⟩ = some (.string dy.nm) ∧ V.cell? ⟨w.heap.size + 1, 5, none⟩ = some (.slice Ay my cy)) from fun V hV =>
            ⟨(hV.cell (p := ⟨w1.heap.size, 5, none⟩) lz).trans z5, (hV.cell (p := ⟨w.heap.size, 5, none⟩) l0).trans x5, (hV.cell hal).trans f0, (hV.cell (p := ⟨(a.add (k * 6)).block, (a.add (k * 6)).off + 1, none⟩) hal).trans f1, (hV.cell (p := ⟨(a.add (k * 6)).block, (a.add (k * 6)).off + 2, none⟩) hal).trans f2, (hV.cell (p := ⟨(a.add (k * 6)).block, (a.add (k * 6)).off + 3, none⟩) hal).trans f3, (hV.cell (p := ⟨(a.add (k * 6)).block, (a.add (k * 6)).off + 4, none⟩) hal).trans f4, (hV.cell (p := ⟨(a.add (k * 6)).block, (a.add (k * 6)).off + 5, none⟩) hal).trans f5,
              (hV.cell (p := ⟨w.heap.size + 1, 0, none⟩) l1).trans y0', (hV.cell (p := ⟨w.heap.size + 1, 1, none⟩) l1).trans y1', (hV.cell (p := ⟨w.heap.size + 1, 2, none⟩) l1).trans y2', (hV.cell (p := ⟨w.heap.size + 1, 3, none⟩) l1).trans y3', (hV.cell (p := ⟨w.heap.size + 1, 4, none⟩) l1).trans y4', (hV.cell (p := ⟨w.heap.size + 1, 5, none⟩) l1).trans y5'⟩)
          have HSet := Lib.hid (show ∀ U u0 u1 u2 u3 u4 u5, Below wr.heap.size wr U → ∀ V, V = ((((((U.setCell ⟨g, k * 6, none⟩ u0).setCell ⟨g, k * 6 + 1, none⟩ u1).setCell ⟨g, k * 6 + 2, none⟩ u2).setCell ⟨g, k * 6 + 3, none⟩ u3).setCell ⟨g, k * 6 + 4, none⟩ u4).setCell ⟨g, k * 6 + 5, none⟩ u5) → (V.cell? ⟨w1.heap.size, 5, none⟩ = some (.slice (some ⟨g, 0, none⟩) l.length cv) ∧ V.cell? ⟨w.heap.size, 5, none⟩ = some (.slice (some a) l.length c) ∧ V.cell? (a.add (k * 6)) = some (.int .i64 d2.op) ∧ V.cell? ⟨(a.add (k * 6)).block, (a.add (k * 6)).off + 1, none⟩ = some (.int .i64 d2.k) ∧ V.cell? ⟨(a.add (k * 6)).block, (a.add (k * 6)).off + 2, none⟩ = some (.int .i64 d2.n) ∧ V.cell? ⟨(a.add (k * 6)).block, (a.add (k * 6)).off + 3, none⟩ = some (.string d2.s) ∧ V.cell? ⟨(a.add (k * 6)).block, (a.add (k * 6)).off + 4, none⟩ = some (.string d2.nm) ∧ V.cell? ⟨(a.add (k * 6)).block, (a.add (k * 6)).off + 5, none⟩ = some (.slice B2 m2 c2) ∧ V.cell? ⟨w.heap.size + 1, 0, none⟩ = some (.int .i64 dy.op) ∧ V.cell? ⟨w.heap.size + 1, 1, none⟩ = some (.int .i64 dy.k) ∧ V.cell? ⟨w.heap.size + 1, 2, none⟩ = some (.int .i64 dy.n) ∧ V.cell? ⟨w.heap.size + 1, 3, none⟩ = some (.string dy.s) ∧ V.cell? ⟨w.heap.size + 1, 4, none⟩ = some (.string dy.nm) ∧ V.cell? ⟨w.heap.size + 1, 5, none⟩ = some (.slice Ay my cy)) from fun U u0 u1 u2 u3 u4 u5 hU V hV6 => by
            subst hV6
            obtain ⟨s0, s1, s2, s3, s4, s5, s6, s7, s8, s9, s10, s11, s12, s13⟩ := HCells.out U hU
            have hgB : w1.heap.size ≠ g := hzg
            have hga : (a.add (k * 6)).block ≠ g := by rw [block_of_add]; omega
            have hg0 : w.heap.size ≠ g := by omega
            have hg1 : w.heap.size + 1 ≠ g := by omega
            have q := fun (p : Addr) (h : p.block ≠ g) => World.cell?_of_block (a := p) (set6_block (w := U) (i := k * 6) h u0 u1 u2 u3 u4 u5)
            exact ⟨(q ⟨w1.heap.size, 5, none⟩ hgB).trans s0, (q ⟨w.heap.size, 5, none⟩ hg0).trans s1, (q _ hga).trans s2, (q ⟨(a.add (k * 6)).block, (a.add (k * 6)).off + 1, none⟩ hga).trans s3, (q ⟨(a.add (k * 6)).block, (a.add (k * 6)).off + 2, none⟩ hga).trans s4, (q ⟨(a.add (k * 6)).block, (a.add (k * 6)).off + 3, none⟩ hga).trans s5, (q ⟨(a.add (k * 6)).block, (a.add (k * 6)).off + 4, none⟩ hga).trans s6, (q ⟨(a.add (k * 6)).block, (a.add (k * 6)).off + 5, none⟩ hga).trans s7, (q ⟨w.heap.size + 1, 0, none⟩ hg1).trans s8, (q ⟨w.heap.size + 1, 1, none⟩ hg1).trans s9, (q ⟨w.heap.size + 1, 2, none⟩ hg1).trans s10, (q ⟨w.heap.size + 1, 3, none⟩ hg1).trans s11, (q ⟨w.heap.size + 1, 4, none⟩ hg1).trans s12, (q ⟨w.heap.size + 1, 5, none⟩ hg1).trans s13⟩)
          have hck := fun V (hV : Below wr.heap.size wr V) => HH.out k hlt d2 dy B2 Ay m2 c2 my cy V ((hi2.below hI.below).below hV) ((HY.out.below hI.below).below hV)
          have HCk := Lib.hid hck
          have hbl : Below wr.heap.size wr wr := Below.refl _ _
          clear hI hat hi2 hbz x0 y0 gc g0 g1 g2 g3 g4 g5 gz hv0 hv1 hv2 hv3 hv4 hv5 hck hbx hen hcl hzg haw
          go_wp2_with fail
          go_region_held3 (fun V => (V.cell? ⟨w1.heap.size, 5, none⟩ = some (.slice (some ⟨g, 0, none⟩) l.length cv) ∧ V.cell? ⟨w.heap.size, 5, none⟩ = some (.slice (some a) l.length c) ∧ V.cell? (a.add (k * 6)) = some (.int .i64 d2.op) ∧ V.cell? ⟨(a.add (k * 6)).block, (a.add (k * 6)).off + 1, none⟩ = some (.int .i64 d2.k) ∧ V.cell? ⟨(a.add (k * 6)).block, (a.add (k * 6)).off + 2, none⟩ = some (.int .i64 d2.n) ∧ V.cell? ⟨(a.add (k * 6)).block, (a.add (k * 6)).off + 3, none⟩ = some (.string d2.s) ∧ V.cell? ⟨(a.add (k * 6)).block, (a.add (k * 6)).off + 4, none⟩ = some (.string d2.nm) ∧ V.cell? ⟨(a.add (k * 6)).block, (a.add (k * 6)).off + 5, none⟩ = some (.slice B2 m2 c2) ∧ V.cell? ⟨w.heap.size + 1, 0, none⟩ = some (.int .i64 dy.op) ∧ V.cell? ⟨w.heap.size + 1, 1, none⟩ = some (.int .i64 dy.k) ∧ V.cell? ⟨w.heap.size + 1, 2, none⟩ = some (.int .i64 dy.n) ∧ V.cell? ⟨w.heap.size + 1, 3, none⟩ = some (.string dy.s) ∧ V.cell? ⟨w.heap.size + 1, 4, none⟩ = some (.string dy.nm) ∧ V.cell? ⟨w.heap.size + 1, 5, none⟩ = some (.slice Ay my cy))) (first | (with_reducible exact HCells.out _ hbl) | (with_reducible exact HCells.out _ (b_drew hbl)) | (with_reducible exact HSet.out _ _ _ _ _ _ _ hbl _ rfl)) (first | (go_at_call 38; (with_reducible refine (HCk.out _ ?_).mono ?_); (first | exact hbl | exact b_drew hbl); rintro e w5 ⟨d5, B5, m5, c5, rfl, hi5, hb5⟩; have hi6 := hi5.imp (Q := fun b => wr.drew.heap.size ≤ b) (fun b h1 h2 => h1); have hbl : Below wr.heap.size wr w5 := (by (first | (exact b_trans hbl hb5) | (exact b_trans (b_drew hbl) hb5))); obtain ⟨⟨p0, p1, p2, p3, p4, p5⟩, pz⟩ := HGc.out w5 hbl; have HX := Lib.hid (And.intro hi6 hbl); clear hi5 hi6 hb5))
          all_goals
            have hN := HI.out.step (d5 := d5) (B5 := B5) (m5 := m5) (c5 := c5) hlt HX.out.1 HX.out.2
            have HN := Lib.hid hN
            clear hN HX HCk HCells HGc HSet p0 p1 p2 p3 p4 p5 pz hbl
            go_wp2_with fail
            go_roundw
            case rel => exact ⟨k + 1, _, by go_num, HN.out⟩
            case measure => simp [intOf]; omega
        · have hkl : k = l.length := by omega
          subst hkl
          have hbz := hI.bz
          have hc8 : ∀ o, wr.cell? ⟨w1.heap.size, o, none⟩ = (#[.int .i64 d'.op, .int .i64 d'.k, .int .i64 d'.n, .string d'.s, .string d'.nm, .slice Av l.length cv] : Array Value)[o]? := fun o => by simp [World.cell?, hbz]
          obtain ⟨_, _, r2, r3⟩ := hI.bx.cells
          clear hI hbz
          go_wp2_with fail
          refine bodyPost_ret (v := .agg #[.int .i64 d'.op, .int .i64 d'.k, .int .i64 d'.n, .string d'.s, .string d'.nm, .slice Av l.length cv]) (by simp [results, Tryd.results38, go_sem, r2]) rfl ?_
          obtain ⟨A2, c2, hv, hi⟩ := HI.out.fin HS1.out HS2.out
          injection hv with hv1 hv2 hv3
          subst hv1 hv3
          refine ⟨d', Av, l.length, cv, rfl, ?_, set6_below (i := 0) HI.out.below (by omega) _ _ _ _ _ _⟩
          exact IsP.keep (fun b hb hl => set6_block (i := 0) (by omega) _ _ _ _ _ _) (fun b hb hl => by omega) _ _ _ _ hi
end Go.Proofs.YtlceojdnmoekcaaDoor.NmS
