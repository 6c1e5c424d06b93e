/- Contracts of names.replaced, names.Put. -/
import Derived.Test.YtehkebncdahmcaaDoorNmCopy
import Derived.Test.YtehkebncdahmcaaDoorExCheck
import Derived.Test.YtehkebncdahmcaaDoorLexBytes
namespace Go.Proofs.YtehkebncdahmcaaDoor.NmP
open Go.RowKit Go.Shelf
open ExM NmM Kit ExL ExP ExV ExN NmC
set_option linter.unusedVariables false

theorem eqs_of (s t : ByteArray) : (s.toList == t.toList) = decide (s = t) := by
  rw [ByteArray.toList_eq, ByteArray.toList_eq]
  by_cases h : s = t
  · subst h; simp
  · rw [decide_eq_false h, beq_eq_false_iff_ne]
    intro e
    apply h
    cases s with | mk a => cases t with | mk b => exact congrArg _ (Array.toList_inj.1 e)
/-- What a putting promises at a formula. -/
def PutAt (n : ByteArray) (y : Ex) (x : Ex) : Prop := ∀ (d dy : Nd) (A Ay : Option Addr) (m c my cy : Nat) (w : World), Is w x d A m → Is w y dy Ay my →
  Calls Tryd.prog 20 #[.agg #[.int .i64 d.op, .int .i64 d.k, .int .i64 d.n, .string d.s, .string d.nm, .slice A m c], .string n, .agg #[.int .i64 dy.op, .int .i64 dy.k, .int .i64 dy.n, .string dy.s, .string dy.nm, .slice Ay my cy]] w (Made (Ex.put n y x) w)
def zeroX : Array Value := #[.int .i64 0, .int .i64 0, .int .i64 0, .string ⟨#[]⟩, .string ⟨#[]⟩, .slice none 0 0]

set_option maxRecDepth 100000 in
set_option maxHeartbeats 1000000 in
theorem clos_any (n : ByteArray) (y x : Ex) (hp : PutAt n y x) (d dy : Nd) (A Ay : Option Addr) (m c my cy Bn By : Nat) (w : World) (hx : Is w x d A m) (hy : Is w y dy Ay my) (hn : Boxed w Bn 9 (.string n)) (hb : Box w By dy Ay my cy) :
    Calls Tryd.prog 46 #[.agg #[.int .i64 d.op, .int .i64 d.k, .int .i64 d.n, .string d.s, .string d.nm, .slice A m c], .pointer (some ⟨Bn, 0, none⟩), .pointer (some ⟨By, 0, none⟩)] w (Made (Ex.put n y x) w) := by
  have hc := fun V (hV : Below w.heap.size w V) => hp d dy A Ay m c my cy V (hx.below hV) (hy.below hV)
  have HC := Lib.hid hc
  have n0 := hn.cell
  have nl := hn.lt
  have yl := hb.lt
  obtain ⟨y0, y1, y2, y3, y4, y5⟩ := hb.cells
  clear hc hp hx hy hn hb
  go_enter Tryd.func46, Tryd.ntmps46
  go_wp2_with fail
  refine (HC.out _ (b_more (b_new w _) _)).mono ?_; rintro e w1 ⟨d1, B1, m1, c1, rfl, hi, hb⟩
  have q1 : w1.heap[w.heap.size + 1]? = some (.cells #[.int .i64 0, .int .i64 0, .int .i64 0, .string ⟨#[]⟩, .string ⟨#[]⟩, .slice none 0 0] 26 (0, 0)) := by
    refine (hb.block _ (by simp)).trans ?_
    have := World.alloc_heap_new (w.alloc (.cells #[.int .i64 d.op, .int .i64 d.k, .int .i64 d.n, .string d.s, .string d.nm, .slice A m c] 26)) (.cells #[.int .i64 0, .int .i64 0, .int .i64 0, .string ⟨#[]⟩, .string ⟨#[]⟩, .slice none 0 0] 26)
    rw [World.size_alloc] at this; exact this
  have hc7 : ∀ o, w1.cell? ⟨w.heap.size + 1, o, none⟩ = (#[.int .i64 0, .int .i64 0, .int .i64 0, .string ⟨#[]⟩, .string ⟨#[]⟩, .slice none 0 0] : Array Value)[o]? := fun o => by simp [World.cell?, q1]
  have hf7 : ∀ o, w1.frozen? ⟨w.heap.size + 1, o, none⟩ = false := fun o => by simp [World.frozen?, q1]
  have hbw : Below w.heap.size w w1 := b_then (b_then hb)
  have HX := Lib.hid (And.intro hi hbw)
  clear hi hb hbw q1 y0 y1 y2 y3 y4 y5 n0
  go_wp2_with fail
  refine bodyPost_ret (v := .agg #[.int .i64 d1.op, .int .i64 d1.k, .int .i64 d1.n, .string d1.s, .string d1.nm, .slice B1 m1 c1]) (by simp [results, Tryd.results46, go_sem, hc7]) rfl ?_
  refine ⟨d1, B1, m1, c1, rfl, ?_, ?_⟩
  · exact IsP.keep (P := fun b => w.heap.size + 2 ≤ b) (w := w1) (fun b hb hl => set6_block (i := 0) (by omega) _ _ _ _ _ _) (fun b hb hl => by omega) _ _ _ _ (by have := HX.out.1; simpa using this)
  · exact set6_below (i := 0) HX.out.2 (by omega) _ _ _ _ _ _

theorem box2 (w : World) (o0 o1 o2 o3 : Obj) : ((((w.alloc o0).alloc o1).alloc o2).alloc o3).heap[w.heap.size]? = some o0 ∧ ((((w.alloc o0).alloc o1).alloc o2).alloc o3).heap[w.heap.size + 1]? = some o1 ∧ ((((w.alloc o0).alloc o1).alloc o2).alloc o3).heap[w.heap.size + 1 + 1]? = some o2 ∧ ((((w.alloc o0).alloc o1).alloc o2).alloc o3).heap[w.heap.size + 1 + 1 + 1]? = some o3 := by
  have a0 := World.alloc_heap_new w o0
  have a1 := World.alloc_heap_new (w.alloc o0) o1
  have a2 := World.alloc_heap_new ((w.alloc o0).alloc o1) o2
  have a3 := World.alloc_heap_new (((w.alloc o0).alloc o1).alloc o2) o3
  simp only [World.size_alloc] at a1 a2 a3
  have k := fun (v : World) (o : Obj) (b : Nat) (x : Obj) (h : v.heap[b]? = some x) => ((b_new v o).block b (Array.getElem?_eq_some_iff.1 h).1).trans h
  exact ⟨k _ _ _ _ (k _ _ _ _ (k _ _ _ _ a0)), k _ _ _ _ (k _ _ _ _ a1), k _ _ _ _ a2, a3⟩

set_option maxRecDepth 100000 in
set_option maxHeartbeats 2000000 in
theorem put_any (n : ByteArray) (y : Ex) (hy8 : y.nodes ≤ 1048576) : ∀ x : Ex, x.nodes ≤ 1048576 → PutAt n y x := by
  refine Ex.ind fun d l ih => ?_
  intro hx8 d' dy A Ay m c my cy w his hiy
  have his0 := his
  rw [is_mk] at his
  obtain ⟨rfl, rfl, ⟨hm, hs1, hs2⟩, his⟩ := his
  rw [nodes_mk] at hx8
  have hlen := len_nodesL l
  by_cases h : d'.op = 2 ∧ d'.nm = n
  · rw [put_pos n y d' l h]
    obtain ⟨h1, h2⟩ := h
    have hc := fun V (hb : Below w.heap.size w V) => copy_any y dy Ay my cy V hy8 (hiy.below hb)
    have HC := Lib.hid hc
    have t1 : (d'.nm.toList == n.toList) = true := by rw [eqs_of]; exact decide_eq_true h2
    clear hc ih his his0 hx8 hy8 hlen hs1 hs2 hm hiy h2
    go_enter Tryd.func20, Tryd.ntmps20
    go_wp2_with fail
    refine (HC.out _ (b_more (b_more (b_more (b_new w _) _) _) _)).mono ?_; rintro e w1 ⟨d1, B1, m1, c1, rfl, hi, hb⟩
    have q3 : w1.heap[w.heap.size + 1 + 1 + 1]? = some (.cells #[.int .i64 0, .int .i64 0, .int .i64 0, .string ⟨#[]⟩, .string ⟨#[]⟩, .slice none 0 0] 26 (0, 0)) := (hb.block _ (by simp)).trans (box2 w _ _ _ _).2.2.2
    have hc7 : ∀ o, w1.cell? ⟨w.heap.size + 1 + 1 + 1, o, none⟩ = (#[.int .i64 0, .int .i64 0, .int .i64 0, .string ⟨#[]⟩, .string ⟨#[]⟩, .slice none 0 0] : Array Value)[o]? := fun o => by simp [World.cell?, q3]
    have hf7 : ∀ o, w1.frozen? ⟨w.heap.size + 1 + 1 + 1, o, none⟩ = false := fun o => by simp [World.frozen?, q3]
    have hbw : Below w.heap.size w w1 := b_then (b_then (b_then (b_then hb)))
    have HX := Lib.hid (And.intro hi hbw)
    clear hi hb hbw q3 t1 h1
    go_wp2_with fail
    refine bodyPost_ret (v := .agg #[.int .i64 d1.op, .int .i64 d1.k, .int .i64 d1.n, .string d1.s, .string d1.nm, .slice B1 m1 c1]) (by simp [results, Tryd.results20, go_sem, hc7]) rfl ?_
    refine ⟨d1, B1, m1, c1, rfl, ?_, ?_⟩
    · exact IsP.keep (P := fun b => w.heap.size + 4 ≤ b) (w := w1) (fun b hb hl => set6_block (i := 0) (by omega) _ _ _ _ _ _) (fun b hb hl => by omega) _ _ _ _ (by have := HX.out.1; simpa using this)
    · exact set6_below (i := 0) HX.out.2 (by omega) _ _ _ _ _ _
  · rw [put_neg n y d' l h]
    have hc := fun V (hb : Below w.heap.size w V) (hn : Boxed V (w.heap.size + 1) 9 (.string n)) (hyb : Box V (w.heap.size + 1 + 1) dy Ay my cy) => eachPut_any (Ex.put n y) l (w.heap.size + 1) (w.heap.size + 1 + 1) A c V (by omega) (ExS.Row.below his hb)
      (fun j hj d2 A2 n2 c2 W hW hi => clos_any n y l[j] (ih _ (List.getElem_mem hj) (by have := nodes_mem (List.getElem_mem hj); omega)) d2 dy A2 Ay n2 c2 my cy (w.heap.size + 1) (w.heap.size + 1 + 1) W hi ((hiy.below hb).below hW) ((hW.block _ hn.lt).trans hn) (hyb.below hW))
    have HC := Lib.hid hc
    have HS1 := Lib.hid hs1
    have HS2 := Lib.hid hs2
    have HM := Lib.hid hm
    have hlm : (l.map (Ex.put n y)).length = l.length := List.length_map _
    have HLM := Lib.hid hlm
    clear hc ih his his0 hx8 hy8 hlen hs1 hs2 hm hiy hlm
    by_cases h1 : d'.op = 2
    · have t1 : (d'.nm.toList == n.toList) = false := by rw [eqs_of]; exact decide_eq_false fun e => h ⟨h1, e⟩
      have t0 : (d'.op == 2) = true := beq_iff_eq.2 h1
      clear h h1
      go_enter Tryd.func20, Tryd.ntmps20
      go_wp2_with fail
      have hbx := box2 w (.cells #[.int .i64 d'.op, .int .i64 d'.k, .int .i64 d'.n, .string d'.s, .string d'.nm, .slice A l.length c] 26) (.cells #[.string n] 9) (.cells #[.int .i64 dy.op, .int .i64 dy.k, .int .i64 dy.n, .string dy.s, .string dy.nm, .slice Ay my cy] 26) (.cells #[.int .i64 0, .int .i64 0, .int .i64 0, .string ⟨#[]⟩, .string ⟨#[]⟩, .slice none 0 0] 26)
      refine (HC.out _ (b_more (b_more (b_more (b_new w _) _) _) _) hbx.2.1 hbx.2.2.1).mono ?_; rintro e w1 ⟨A1, c1, rfl, hr, hb⟩
      rw [HLM.out]
      have q0 := (hb.block _ (by simp; omega)).trans hbx.1
      have q3 := (hb.block _ (by simp)).trans hbx.2.2.2
      have hc0 : ∀ o, w1.cell? ⟨w.heap.size, o, none⟩ = (#[.int .i64 d'.op, .int .i64 d'.k, .int .i64 d'.n, .string d'.s, .string d'.nm, .slice A l.length c] : Array Value)[o]? := fun o => by simp [World.cell?, q0]
      have hf0 : ∀ o, w1.frozen? ⟨w.heap.size, o, none⟩ = false := fun o => by simp [World.frozen?, q0]
      have hc7 : ∀ o, w1.cell? ⟨w.heap.size + 1 + 1 + 1, o, none⟩ = (#[.int .i64 0, .int .i64 0, .int .i64 0, .string ⟨#[]⟩, .string ⟨#[]⟩, .slice none 0 0] : Array Value)[o]? := fun o => by simp [World.cell?, q3]
      have hf7 : ∀ o, w1.frozen? ⟨w.heap.size + 1 + 1 + 1, o, none⟩ = false := fun o => by simp [World.frozen?, q3]
      have hbw : Below w.heap.size w w1 := b_then (b_then (b_then (b_then hb)))
      have HX := Lib.hid (And.intro hr hbw)
      clear hr hb hbw q0 q3 hbx
      go_wp2_with fail
      refine bodyPost_ret (v := .agg #[.int .i64 d'.op, .int .i64 d'.k, .int .i64 d'.n, .string d'.s, .string d'.nm, .slice A1 l.length c1]) (by simp [results, Tryd.results20, go_sem, hc7]) rfl ?_
      refine ⟨d', A1, l.length, c1, rfl, ?_, ?_⟩
      · refine IsP.keep (P := fun b => w.heap.size + 4 ≤ b) (w := w1) (fun b hb hl => ?_) (fun b hb hl => by omega) _ _ _ _ (RowP.mk_ (P := fun b => w.heap.size + 4 ≤ b) (by have := HX.out.1; simpa using this) HLM.out.symm HM.out HS1.out HS2.out)
        rw [set6_block (i := 0) (by omega), Below.heap_setCell _ ⟨w.heap.size, 5, none⟩ _ b (by show b ≠ w.heap.size; omega)]
      · exact set6_below (i := 0) (HX.out.2.setCell (p := ⟨w.heap.size, 5, none⟩) (Nat.le_refl _) _) (by omega) _ _ _ _ _ _
    · have t0 : (d'.op == 2) = false := beq_eq_false_iff_ne.2 h1
      clear h h1
      go_enter Tryd.func20, Tryd.ntmps20
      go_wp2_with fail
      have hbx := box2 w (.cells #[.int .i64 d'.op, .int .i64 d'.k, .int .i64 d'.n, .string d'.s, .string d'.nm, .slice A l.length c] 26) (.cells #[.string n] 9) (.cells #[.int .i64 dy.op, .int .i64 dy.k, .int .i64 dy.n, .string dy.s, .string dy.nm, .slice Ay my cy] 26) (.cells #[.int .i64 0, .int .i64 0, .int .i64 0, .string ⟨#[]⟩, .string ⟨#[]⟩, .slice none 0 0] 26)
      refine (HC.out _ (b_more (b_more (b_more (b_new w _) _) _) _) hbx.2.1 hbx.2.2.1).mono ?_; rintro e w1 ⟨A1, c1, rfl, hr, hb⟩
      rw [HLM.out]
      have q0 := (hb.block _ (by simp; omega)).trans hbx.1
      have q3 := (hb.block _ (by simp)).trans hbx.2.2.2
      have hc0 : ∀ o, w1.cell? ⟨w.heap.size, o, none⟩ = (#[.int .i64 d'.op, .int .i64 d'.k, .int .i64 d'.n, .string d'.s, .string d'.nm, .slice A l.length c] : Array Value)[o]? := fun o => by simp [World.cell?, q0]
      have hf0 : ∀ o, w1.frozen? ⟨w.heap.size, o, none⟩ = false := fun o => by simp [World.frozen?, q0]
      have hc7 : ∀ o, w1.cell? ⟨w.heap.size + 1 + 1 + 1, o, none⟩ = (#[.int .i64 0, .int .i64 0, .int .i64 0, .string ⟨#[]⟩, .string ⟨#[]⟩, .slice none 0 0] : Array Value)[o]? := fun o => by simp [World.cell?, q3]
      have hf7 : ∀ o, w1.frozen? ⟨w.heap.size + 1 + 1 + 1, o, none⟩ = false := fun o => by simp [World.frozen?, q3]
      have hbw : Below w.heap.size w w1 := b_then (b_then (b_then (b_then hb)))
      have HX := Lib.hid (And.intro hr hbw)
      clear hr hb hbw q0 q3 hbx
      go_wp2_with fail
      refine bodyPost_ret (v := .agg #[.int .i64 d'.op, .int .i64 d'.k, .int .i64 d'.n, .string d'.s, .string d'.nm, .slice A1 l.length c1]) (by simp [results, Tryd.results20, go_sem, hc7]) rfl ?_
      refine ⟨d', A1, l.length, c1, rfl, ?_, ?_⟩
      · refine IsP.keep (P := fun b => w.heap.size + 4 ≤ b) (w := w1) (fun b hb hl => ?_) (fun b hb hl => by omega) _ _ _ _ (RowP.mk_ (P := fun b => w.heap.size + 4 ≤ b) (by have := HX.out.1; simpa using this) HLM.out.symm HM.out HS1.out HS2.out)
        rw [set6_block (i := 0) (by omega), Below.heap_setCell _ ⟨w.heap.size, 5, none⟩ _ b (by show b ≠ w.heap.size; omega)]
      · exact set6_below (i := 0) (HX.out.2.setCell (p := ⟨w.heap.size, 5, none⟩) (Nat.le_refl _) _) (by omega) _ _ _ _ _ _

/-- How a putting together ends. -/
def putR (n : ByteArray) (x y : Ex) : Int := putE n x y (LexB.nameE n.data.toList)
def putZ (n : ByteArray) (x y : Ex) : Ex := if putR n x y = 0 then Ex.put n y x else .mk ⟨0, 0, 0, ⟨#[]⟩, ⟨#[]⟩⟩ []
def PutOut (n : ByteArray) (x y : Ex) (w : World) (e : Ending) (w' : World) : Prop :=
  ∃ (d : Nd) (B : Option Addr) (m c : Nat), e = .returned (.tuple #[.agg #[.int .i64 d.op, .int .i64 d.k, .int .i64 d.n, .string d.s, .string d.nm, .slice B m c], .int .i64 (putR n x y)]) ∧ IsP (fun b => w.heap.size ≤ b) w' (putZ n x y) d B m ∧ Below w.heap.size w w'
theorem putOut_bad {n : ByteArray} {x y : Ex} {w w' : World} {q : Int} (hq : putR n x y = q) (h0 : q ≠ 0) (hb : Below w.heap.size w w') : PutOut n x y w (.returned (.tuple #[.agg #[.int .i64 0, .int .i64 0, .int .i64 0, .string ⟨#[]⟩, .string ⟨#[]⟩, .slice none 0 0], .int .i64 q])) w' := by
  subst hq
  refine ⟨⟨0, 0, 0, ⟨#[]⟩, ⟨#[]⟩⟩, none, 0, 0, rfl, ?_, hb⟩
  unfold putZ; rw [if_neg h0]
  exact isP_leaf _ _ _ _ (Nat.zero_le _) (Nat.zero_le _)
/-- Three boxes: two formulas, and room for a third. -/
structure Bx3 (w : World) (d dy : Nd) (A Ay : Option Addr) (m c my cy : Nat) (W : World) : Prop where
  b0 : Box W w.heap.size d A m c
  b1 : Box W (w.heap.size + 1) dy Ay my cy
  b2 : Box W (w.heap.size + 1 + 1) ⟨0, 0, 0, ⟨#[]⟩, ⟨#[]⟩⟩ none 0 0
theorem Bx3.below {w : World} {d dy : Nd} {A Ay : Option Addr} {m c my cy : Nat} {W W' : World} (h : Bx3 w d dy A Ay m c my cy W) (hb : Below W.heap.size W W') : Bx3 w d dy A Ay m c my cy W' := ⟨h.b0.below hb, h.b1.below hb, h.b2.below hb⟩
theorem Bx3.cells {w : World} {d dy : Nd} {A Ay : Option Addr} {m c my cy : Nat} {W : World} (h : Bx3 w d dy A Ay m c my cy W) :
    (∀ o, W.cell? ⟨w.heap.size, o, none⟩ = (#[.int .i64 d.op, .int .i64 d.k, .int .i64 d.n, .string d.s, .string d.nm, .slice A m c] : Array Value)[o]?) ∧
    (∀ o, W.cell? ⟨w.heap.size + 1, o, none⟩ = (#[.int .i64 dy.op, .int .i64 dy.k, .int .i64 dy.n, .string dy.s, .string dy.nm, .slice Ay my cy] : Array Value)[o]?) ∧
    (∀ o, W.cell? ⟨w.heap.size + 1 + 1, o, none⟩ = (#[.int .i64 0, .int .i64 0, .int .i64 0, .string ⟨#[]⟩, .string ⟨#[]⟩, .slice none 0 0] : Array Value)[o]?) ∧
    (∀ o, W.frozen? ⟨w.heap.size + 1 + 1, o, none⟩ = false) := by
  obtain ⟨h0, h1, h2⟩ := h
  unfold Box at h0 h1 h2
  exact ⟨fun o => by simp [World.cell?, h0], fun o => by simp [World.cell?, h1], fun o => by simp [World.cell?, h2], fun o => by simp [World.frozen?, h2]⟩
theorem bx3_new (w : World) (d dy : Nd) (A Ay : Option Addr) (m c my cy : Nat) : Bx3 w d dy A Ay m c my cy (((w.alloc (.cells #[.int .i64 d.op, .int .i64 d.k, .int .i64 d.n, .string d.s, .string d.nm, .slice A m c] 26)).alloc (.cells #[.int .i64 dy.op, .int .i64 dy.k, .int .i64 dy.n, .string dy.s, .string dy.nm, .slice Ay my cy] 26)).alloc (.cells #[.int .i64 0, .int .i64 0, .int .i64 0, .string ⟨#[]⟩, .string ⟨#[]⟩, .slice none 0 0] 26)) := by
  have a0 := World.alloc_heap_new w (.cells #[.int .i64 d.op, .int .i64 d.k, .int .i64 d.n, .string d.s, .string d.nm, .slice A m c] 26)
  have a1 := World.alloc_heap_new (w.alloc (.cells #[.int .i64 d.op, .int .i64 d.k, .int .i64 d.n, .string d.s, .string d.nm, .slice A m c] 26)) (.cells #[.int .i64 dy.op, .int .i64 dy.k, .int .i64 dy.n, .string dy.s, .string dy.nm, .slice Ay my cy] 26)
  have a2 := World.alloc_heap_new ((w.alloc (.cells #[.int .i64 d.op, .int .i64 d.k, .int .i64 d.n, .string d.s, .string d.nm, .slice A m c] 26)).alloc (.cells #[.int .i64 dy.op, .int .i64 dy.k, .int .i64 dy.n, .string dy.s, .string dy.nm, .slice Ay my cy] 26)) (.cells #[.int .i64 0, .int .i64 0, .int .i64 0, .string ⟨#[]⟩, .string ⟨#[]⟩, .slice none 0 0] 26)
  simp only [World.size_alloc] at a1 a2
  exact ⟨Box.below (Box.below (show Box _ _ d A m c from a0) (b_new _ _)) (b_new _ _), Box.below (show Box _ _ dy Ay my cy from a1) (b_new _ _), a2⟩

set_option maxRecDepth 100000 in
set_option maxHeartbeats 2000000 in
theorem Put_any (n : ByteArray) (hn : n.size ≤ maxLen) (x y : Ex) (hx8 : x.nodes ≤ 1048576) (hy8 : y.nodes ≤ 1048576) (d dy : Nd) (A Ay : Option Addr) (m c my cy : Nat) (w : World) (his : Is w x d A m) (hiy : Is w y dy Ay my) (hT : Tab w) :
    Calls Tryd.prog 10 #[.agg #[.int .i64 d.op, .int .i64 d.k, .int .i64 d.n, .string d.s, .string d.nm, .slice A m c], .string n, .agg #[.int .i64 dy.op, .int .i64 dy.k, .int .i64 dy.n, .string dy.s, .string dy.nm, .slice Ay my cy]] w (PutOut n x y w) := by
  have hpn := put_nodes n y x
  obtain ⟨R1, hR1⟩ : ∃ q, x.checkE = q := ⟨_, rfl⟩
  obtain ⟨R2, hR2⟩ : ∃ q, y.checkE = q := ⟨_, rfl⟩
  obtain ⟨R3, hR3⟩ : ∃ q, LexB.nameE n.data.toList = q := ⟨_, rfl⟩
  obtain ⟨R4, hR4⟩ : ∃ q, (Ex.put n y x).checkE = q := ⟨_, rfl⟩
  have hF : putR n x y = if R1 = 0 then (if R2 = 0 then (if R3 = 0 then R4 else R3) else R2) else R1 := by unfold putR putE; rw [hR1, hR2, hR3, hR4]
  have c1 := fun V (hb : Below w.heap.size w V) => ExC.check_any x d A m c V (his.below hb) (hT.below hb)
  have c2 := fun V (hb : Below w.heap.size w V) => ExC.check_any y dy Ay my cy V (hiy.below hb) (hT.below hb)
  have c3 := fun V => (LexB.name_any n V (by unfold maxLen at hn; omega)).mono (R' := fun e w' => e = .returned (.int .i64 (LexB.nameE n.data.toList)) ∧ Below V.heap.size V w') fun e w' ⟨h1, h2⟩ => ⟨h1, by rw [← h2]; exact Below.refl _ _⟩
  have c4 := fun V (hb : Below w.heap.size w V) => put_any n y hy8 x hx8 d dy A Ay m c my cy V (his.below hb) (hiy.below hb)
  rw [hR1] at c1
  rw [hR2] at c2
  rw [hR3] at c3
  have hR1' : R1 = 0 → x.nodes ≤ 60 := fun h => (checkE_zero (by rw [hR1, h])).1
  have hR2' : R2 = 0 → y.nodes ≤ 60 := fun h => (checkE_zero (by rw [hR2, h])).1
  have c5 : R1 = 0 → R2 = 0 → ∀ (V : World) (d : Nd) (A : Option Addr) (m c : Nat), Below w.heap.size w V → Is V (Ex.put n y x) d A m →
      Calls Tryd.prog 12 #[.agg #[.int .i64 d.op, .int .i64 d.k, .int .i64 d.n, .string d.s, .string d.nm, .slice A m c]] V fun e w' => e = .returned (.int .i64 R4) ∧ Below V.heap.size V w' := fun r1 r2 V d A m c hb hi => by
    have h6 : (Ex.put n y x).nodes ≤ 1000000000000 := Nat.le_trans hpn (Nat.le_trans (Nat.mul_le_mul (hR1' r1) (hR2' r2)) (by decide))
    rw [← hR4]; exact ExC.check_any (Ex.put n y x) d A m c V hi (hT.below hb)
  have C1 := Lib.hid c1
  have C2 := Lib.hid c2
  have C3 := Lib.hid c3
  have C4 := Lib.hid c4
  have C5 := Lib.hid c5
  have HF := Lib.hid hF
  have HR4 := Lib.hid hR4
  clear c1 c2 c3 c4 c5 hF hR1 hR2 hR3 hR4 his hiy hT hpn hx8 hy8 hn hR1' hR2'
  go_enter Tryd.func10, Tryd.ntmps10
  go_wp2_with fail
  have k0 := bx3_new w d dy A Ay m c my cy
  refine (C1.out _ (b_more (b_more (b_new w _) _) _)).mono ?_; rintro e w1 ⟨rfl, hb⟩
  have k1 := k0.below hb
  have hb1 : Below w.heap.size w w1 := b_then (b_then (b_then hb))
  obtain ⟨m0, m1, m2, m3⟩ := k1.cells
  have K1 := Lib.hid k1
  have HB1 := Lib.hid hb1
  clear hb k0 k1 hb1
  by_cases h1 : R1 = 0
  · subst h1
    rw [if_pos rfl] at HF
    go_wp2_with fail
    refine (C2.out _ HB1.out).mono ?_; rintro e w2 ⟨rfl, hb⟩
    have k2 := K1.out.below hb
    have hb2 := b_trans HB1.out hb
    clear m0 m1 m2 m3
    obtain ⟨m0, m1, m2, m3⟩ := k2.cells
    have K2 := Lib.hid k2
    have HB2 := Lib.hid hb2
    clear hb k2 hb2 K1 HB1
    by_cases h2 : R2 = 0
    · subst h2
      rw [if_pos rfl] at HF
      go_wp2_with fail
      refine (C3.out _).mono ?_; rintro e w3 ⟨rfl, hb⟩
      have k3 := K2.out.below hb
      have hb3 := b_trans HB2.out hb
      clear m0 m1 m2 m3
      obtain ⟨m0, m1, m2, m3⟩ := k3.cells
      have K3 := Lib.hid k3
      have HB3 := Lib.hid hb3
      clear hb k3 hb3 K2 HB2
      by_cases h3 : R3 = 0
      · subst h3
        rw [if_pos rfl] at HF
        go_wp2_with fail
        refine (C4.out _ HB3.out).mono ?_; rintro e w4 ⟨d4, B4, m4, c4, rfl, hi, hb⟩
        have k4 := K3.out.below hb
        have hb4 := b_trans HB3.out hb
        have hi4 := hi.imp (Q := fun b => w.heap.size + 3 ≤ b) fun b hb2 hl => by have := K3.out.b2.lt; have h5 : w3.heap.size ≤ b := hb2; omega
        have hal := Box.new w4 d4 B4 m4 c4
        have k5 := k4.below (b_new w4 (.cells #[.int .i64 d4.op, .int .i64 d4.k, .int .i64 d4.n, .string d4.s, .string d4.nm, .slice B4 m4 c4] 26))
        have c6 := C5.out (by first | trivial | rfl) (by first | trivial | rfl) (w4.alloc (.cells #[.int .i64 d4.op, .int .i64 d4.k, .int .i64 d4.n, .string d4.s, .string d4.nm, .slice B4 m4 c4] 26)) d4 B4 m4 c4 (b_more hb4 _) ((hi4.is).below (b_new _ _))
        have C6 := Lib.hid c6
        have HL4 := Lib.hid (k4.b2.lt)
        have K5 := Lib.hid k5
        have HAL := Lib.hid hal
        have HI4 := Lib.hid hi4
        have HB4 := Lib.hid hb4
        clear m0 m1 m2 m3 hb k4 k5 hi hi4 hal hb4 c6 K3 HB3
        go_wp2_with fail
        refine C6.out.mono ?_; rintro e w5 ⟨rfl, hb⟩
        obtain ⟨m0, m1, m2, m3⟩ := (K5.out.below hb).cells
        obtain ⟨z0, z1, z2, z3, z4, z5⟩ := (HAL.out.below hb).cells
        have hb5 : Below w.heap.size w w5 := HB4.out.trans ((b_then hb).mono HB4.out.size)
        have hl4 := HB4.out.size
        have hs5 := hb.size
        have hs5' : w4.heap.size < w5.heap.size := by simp at hs5; omega
        have hne : w.heap.size + 1 + 1 < w4.heap.size := HL4.out
        have HB5 := Lib.hid hb5
        have HX := Lib.hid (HI4.out.below (b_then hb))
        clear hb hb5 hs5
        by_cases h4 : R4 = 0
        · subst h4
          go_wp2_with fail
          refine bodyPost_ret (v := .tuple #[.agg #[.int .i64 d4.op, .int .i64 d4.k, .int .i64 d4.n, .string d4.s, .string d4.nm, .slice B4 m4 c4], .int .i64 0]) (by simp [results, Tryd.results10, go_sem, m2]) rfl ?_
          have hz : putZ n x y = Ex.put n y x := by unfold putZ; rw [HF.out, if_pos rfl]
          refine ⟨d4, B4, m4, c4, by rw [HF.out], ?_, set6_below (i := 0) HB5.out (by omega) _ _ _ _ _ _⟩
          rw [hz]
          exact IsP.keep (fun b hb hl => set6_block (i := 0) (by omega) _ _ _ _ _ _) (fun b hb hl => by omega) _ _ _ _ HX.out
        · have t1 : (R4 != 0) = true := bne_iff_ne.2 h4
          have H4 := Lib.hid h4
          clear h4
          go_wp2_with fail
          refine bodyPost_ret (v := .tuple #[.agg #[.int .i64 0, .int .i64 0, .int .i64 0, .string ⟨#[]⟩, .string ⟨#[]⟩, .slice none 0 0], .int .i64 R4]) (by simp [results, Tryd.results10, go_sem, m2]) rfl ?_
          exact putOut_bad HF.out H4.out (set6_below (i := 0) HB5.out (by omega) _ _ _ _ _ _)
      · rw [if_neg h3] at HF
        have t1 : (R3 != 0) = true := bne_iff_ne.2 h3
        have H3 := Lib.hid h3
        clear h3
        go_wp2_with fail
        refine bodyPost_ret (v := .tuple #[.agg #[.int .i64 0, .int .i64 0, .int .i64 0, .string ⟨#[]⟩, .string ⟨#[]⟩, .slice none 0 0], .int .i64 R3]) (by simp [results, Tryd.results10, go_sem, m2]) rfl ?_
        exact putOut_bad HF.out H3.out (set6_below (i := 0) HB3.out (by omega) _ _ _ _ _ _)
    · rw [if_neg h2] at HF
      have t1 : (R2 != 0) = true := bne_iff_ne.2 h2
      have H2 := Lib.hid h2
      clear h2
      go_wp2_with fail
      refine bodyPost_ret (v := .tuple #[.agg #[.int .i64 0, .int .i64 0, .int .i64 0, .string ⟨#[]⟩, .string ⟨#[]⟩, .slice none 0 0], .int .i64 R2]) (by simp [results, Tryd.results10, go_sem, m2]) rfl ?_
      exact putOut_bad HF.out H2.out (set6_below (i := 0) HB2.out (by omega) _ _ _ _ _ _)
  · rw [if_neg h1] at HF
    have t1 : (R1 != 0) = true := bne_iff_ne.2 h1
    have H1 := Lib.hid h1
    clear h1
    go_wp2_with fail
    refine bodyPost_ret (v := .tuple #[.agg #[.int .i64 0, .int .i64 0, .int .i64 0, .string ⟨#[]⟩, .string ⟨#[]⟩, .slice none 0 0], .int .i64 R1]) (by simp [results, Tryd.results10, go_sem, m2]) rfl ?_
    exact putOut_bad HF.out H1.out (set6_below (i := 0) HB1.out (by omega) _ _ _ _ _ _)
end Go.Proofs.YtehkebncdahmcaaDoor.NmP
