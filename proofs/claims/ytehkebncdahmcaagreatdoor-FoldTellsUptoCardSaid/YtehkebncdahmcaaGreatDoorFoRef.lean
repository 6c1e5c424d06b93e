/- The reference's folded (P8.1). -/
import Derived.Test.YtehkebncdahmcaaGreatDoorVd
import Derived.Test.YtehkebncdahmcaaGreatDoorNmSwap
import Derived.Test.YtehkebncdahmcaaGreatDoorNmTop
import Derived.Test.YtehkebncdahmcaaGreatDoorFoAll
import Derived.Test.YtehkebncdahmcaaGreatDoorExRef
namespace Go.Proofs.YtehkebncdahmcaaGreatDoor.FoR
open Go.RowKit
open NumM ValM StrM ExM NmM TyM EvM EvP FoM Kit ExL ExP ExV ExN NmC NmR NmS NmA Ev EvC EvO EvF Vd VdT VdA FoT FoS
set_option linter.unusedVariables false

/-- Between two operands that are made less. -/
structure RInv (w : World) (f : Ex → Ex) (d : Nd) (l : List Ex) (A : Option Addr) (c By : Nat) (v : Value) (k : Nat) (es : List El) (wr : World) : Prop where
  le : k ≤ l.length
  ex : es.map El.x = (l.take k).map f ++ l.drop k
  own : wr.ownsRow (w.heap.size + 2) 26 6 v l.length (elC es)
  is : ∀ e ∈ es, IsP (fun b => w.heap.size + 2 ≤ b ∧ some b ≠ v.ownBlock) wr e.x e.d e.A e.n
  bx : Box wr w.heap.size d A l.length c
  bz : EZ wr (w.heap.size + 1)
  bt : wr.heap[By]? = some (.cells #[.int .i64 d.op, .int .i64 d.k, .int .i64 d.n, .string d.s, .string d.nm, v] 26 (0, 0))
  hz : w.heap.size + 2 ≤ By
  hv : some By ≠ v.ownBlock
  below : Below w.heap.size w wr
theorem RInv.len {w : World} {f : Ex → Ex} {d : Nd} {l : List Ex} {A : Option Addr} {c By : Nat} {v : Value} {k : Nat} {es : List El} {wr : World} (h : RInv w f d l A c By v k es wr) : es.length = l.length := by
  have := congrArg List.length h.ex
  have hk := h.le
  simp at this; omega
theorem RInv.step {w : World} {f : Ex → Ex} {d : Nd} {l : List Ex} {A : Option Addr} {c By g cap : Nat} {k : Nat} {es : List El} {wr w5 : World} {d5 : Nd} {B5 : Option Addr} {m5 c5 : Nat} (h : RInv w f d l A c By (.slice (some ⟨g, 0, none⟩) l.length cap) k es wr) (hk : k < l.length)
    (hi : IsP (fun b => wr.heap.size ≤ b) w5 (f l[k]) d5 B5 m5) (hb : Below wr.heap.size wr w5) :
    RInv w f d l A c By (.slice (some ⟨g, 0, none⟩) l.length cap) (k + 1) (es.set k ⟨f l[k], d5, B5, m5, c5⟩) ((((((w5.setCell ⟨g, k * 6, none⟩ (.int .i64 d5.op)).setCell ⟨g, k * 6 + 1, none⟩ (.int .i64 d5.k)).setCell ⟨g, k * 6 + 2, none⟩ (.int .i64 d5.n)).setCell ⟨g, k * 6 + 3, none⟩ (.string d5.s)).setCell ⟨g, k * 6 + 4, none⟩ (.string d5.nm)).setCell ⟨g, k * 6 + 5, none⟩ (.slice B5 m5 c5)) := by
  have hl := h.len
  have hg := h.own.lt g rfl
  have hgB : By ≠ g := fun e => h.hv (by rw [e]; rfl)
  have hs := hb.size
  have kp : ∀ b, b ≠ g → b < wr.heap.size → ((((((w5.setCell ⟨g, k * 6, none⟩ (.int .i64 d5.op)).setCell ⟨g, k * 6 + 1, none⟩ (.int .i64 d5.k)).setCell ⟨g, k * 6 + 2, none⟩ (.int .i64 d5.n)).setCell ⟨g, k * 6 + 3, none⟩ (.string d5.s)).setCell ⟨g, k * 6 + 4, none⟩ (.string d5.nm)).setCell ⟨g, k * 6 + 5, none⟩ (.slice B5 m5 c5)).heap[b]? = wr.heap[b]? := fun b hne hlt => (set6_block hne _ _ _ _ _ _).trans (hb.block b hlt)
  have hge : ∀ b : Nat, b ≠ g → some b ≠ (Value.slice (some ⟨g, 0, none⟩) l.length cap).ownBlock := fun b hne e => hne (by have e2 : some b = some g := e; injection e2)
  have hbt := (Array.getElem?_eq_some_iff.1 h.bt).1
  refine ⟨hk, set_ex h.ex hk _ rfl, ?_, ?_, ?_, ?_, ?_, h.hz, h.hv, ?_⟩
  · exact set_el (own_below h.own hb) (by omega) ⟨f l[k], d5, B5, m5, c5⟩
  · intro e he
    rcases List.mem_or_eq_of_mem_set he with he | he
    · refine IsP.keep (fun b hb2 hlt => kp b (fun e => hb2.2 (by rw [e]; rfl)) hlt) (fun b hb2 _ => hb2) _ _ _ _ (h.is e he)
    · subst he
      refine IsP.keep (fun b hb2 hlt => set6_block (fun e => ?_) _ _ _ _ _ _) (fun b hb2 _ => ⟨?_, hge b ?_⟩) _ _ _ _ hi
      · have : wr.heap.size ≤ b := hb2
        omega
      · have : wr.heap.size ≤ b := hb2
        have := h.below.size
        omega
      · have : wr.heap.size ≤ b := hb2
        omega
  · exact (kp _ (by omega) h.bx.lt).trans h.bx
  · exact (kp _ (by omega) h.bz.lt).trans h.bz
  · exact (kp _ hgB hbt).trans h.bt
  · exact set6_below (h.below.trans (hb.mono h.below.size)) (by omega) _ _ _ _ _ _
theorem RInv.fin {w : World} {f : Ex → Ex} {d : Nd} {l : List Ex} {A : Option Addr} {c By : Nat} {v : Value} {es : List El} {wr : World} (h : RInv w f d l A c By v l.length es wr) (hs : d.s.size ≤ maxLen) (hn : d.nm.size ≤ maxLen) :
    ∃ A2 c2, v = .slice A2 l.length c2 ∧ IsP (fun b => w.heap.size + 2 ≤ b) wr (.mk d (l.map f)) d A2 l.length := by
  have hx : es.map El.x = l.map f := by rw [h.ex, List.take_length, List.drop_length, List.append_nil]
  have hk : Kept (w.heap.size + 2) d (l.map f) es v wr := ⟨hx, by rw [h.len]; exact h.own, h.is⟩
  obtain ⟨A2, c2, hv, hi⟩ := hk.isP hs hn
  rw [List.length_map] at hv hi
  exact ⟨A2, c2, hv, hi⟩
theorem str_slice {w : World} {base : Nat} {e : TypeId} {size : Nat} {v : Value} {n : Nat} {xs : List Value} (h : w.ownsRow base e size v n xs) : ∃ A c, v = .slice A n c := Fo.own_slice h
/-- The reference's word for what is known. -/
theorem known_less {x : Ex} (h : FoS.Good x) (hr : Ex.refs x = []) : conB x = decide ((Ex.ev [] x).k < 4) := by
  have hz : ∀ f ∈ ([] : List (ByteArray × Vl)), f.2.ok := fun f hf => by simp at hf
  have ho := ev_ok hz x h.2.2
  have hk := ok_kind ho
  have h4 := ev_four x h.2.2
  by_cases h5 : (Ex.ev [] x).k = 5
  · rw [decide_eq_false (by omega)]
    rw [← Bool.not_eq_true, conB_iff]
    intro g
    have := known_kind g.2
    omega
  · rw [decide_eq_true (by omega)]
    exact conB_iff.2 ⟨hr, ok_known ho h4 h5⟩

theorem neg_end {w Y : World} {x : Ex} {d : Nd} {B : Option Addr} {m c : Nat} (hb : Below w.heap.size w Y) (hs : w.heap.size + 2 ≤ Y.heap.size) (hi : IsP (fun b => w.heap.size + 2 ≤ b) Y x d B m) (v0 v1 v2 v3 v4 v5 : Value) :
    IsP (fun b => w.heap.size ≤ b) ((((((((Y.setCell ⟨w.heap.size + 1, 0, none⟩ v0).setCell ⟨w.heap.size + 1, 1, none⟩ v1).setCell ⟨w.heap.size + 1, 2, none⟩ v2).setCell ⟨w.heap.size + 1, 3, none⟩ v3).setCell ⟨w.heap.size + 1, 4, none⟩ v4).setCell ⟨w.heap.size + 1, 5, none⟩ v5)).alloc (.cells #[.int .i64 d.op, .int .i64 d.k, .int .i64 d.n, .string d.s, .string d.nm, .slice B m c] 26)) (.mk negN [x]) negN (some ⟨Y.heap.size, 0, none⟩) 1 ∧ Below w.heap.size w ((((((((Y.setCell ⟨w.heap.size + 1, 0, none⟩ v0).setCell ⟨w.heap.size + 1, 1, none⟩ v1).setCell ⟨w.heap.size + 1, 2, none⟩ v2).setCell ⟨w.heap.size + 1, 3, none⟩ v3).setCell ⟨w.heap.size + 1, 4, none⟩ v4).setCell ⟨w.heap.size + 1, 5, none⟩ v5)).alloc (.cells #[.int .i64 d.op, .int .i64 d.k, .int .i64 d.n, .string d.s, .string d.nm, .slice B m c] 26)) := by
  obtain ⟨hk, hbk⟩ := made_end hb hi v0 v1 v2 v3 v4 v5
  have hsz : ((((((Y.setCell ⟨w.heap.size + 1, 0, none⟩ v0).setCell ⟨w.heap.size + 1, 1, none⟩ v1).setCell ⟨w.heap.size + 1, 2, none⟩ v2).setCell ⟨w.heap.size + 1, 3, none⟩ v3).setCell ⟨w.heap.size + 1, 4, none⟩ v4).setCell ⟨w.heap.size + 1, 5, none⟩ v5).heap.size = Y.heap.size := set6_size (i := 0) v0 v1 v2 v3 v4 v5
  generalize ((((((Y.setCell ⟨w.heap.size + 1, 0, none⟩ v0).setCell ⟨w.heap.size + 1, 1, none⟩ v1).setCell ⟨w.heap.size + 1, 2, none⟩ v2).setCell ⟨w.heap.size + 1, 3, none⟩ v3).setCell ⟨w.heap.size + 1, 4, none⟩ v4).setCell ⟨w.heap.size + 1, 5, none⟩ v5) = V at hk hsz hbk
  refine ⟨?_, b_more hbk _⟩
  have hn := Box.new V d B m c
  rw [hsz] at hn
  refine isP_row (es := [⟨_, d, B, m, c⟩]) (fun j hj => ?_) (by omega) (by simp [maxLen]) (Nat.zero_le _) (Nat.zero_le _) (fun e he => ?_)
  · rw [box_cell hn j]; simp [elC, El.cells]
  · simp at he; subst he
    exact hk.below (b_new V _)

set_option maxRecDepth 100000 in
set_option maxHeartbeats 8000000 in
theorem folded_any : ∀ (x : Ex) (d : Nd) (A : Option Addr) (n c : Nat) (w : World), FoS.Good x → Is w x d A n →
    Calls Tryz.prog 23 #[.agg #[.int .i64 d.op, .int .i64 d.k, .int .i64 d.n, .string d.s, .string d.nm, .slice A n c]] w (Made (Ex.fold x) w) := by
  refine Ex.ind fun d l ih => ?_
  intro d' A n c w hgd his
  have hask := fun W (hb : Below w.heap.size w W) => asked_any (.mk d l) d' A n c W (by have := hgd.1; omega) (his.below hb)
  have hval := fun W (hb : Below w.heap.size w W) => vd_all [] none 0 (by simp) (fun f hf => absurd hf (by simp [fcs])) (.mk d l) hgd.2.2 d' A n c W (his.below hb) (fun i hi => absurd hi (by simp))
  have hcpy := fun W (hb : Below w.heap.size w W) => refCopy_any (.mk d l) d' A n c W (by have := hgd.1; omega) (his.below hb)
  rw [is_mk] at his
  obtain ⟨rfl, rfl, ⟨hm, hs1, hs2⟩, his⟩ := his
  have hlen : l.length ≤ 60 := by have := hgd.1; rw [nodes_mk] at this; have := len_nodesL l; omega
  have hf0 : fcs [] = [] := rfl
  simp only [hf0, List.length_nil] at hval
  have e1 : (Ex.mk d' l).d = d' := rfl
  have e2 : (Ex.mk d' l).args = l := rfl
  rw [e1, e2] at hcpy
  have hkl := fun hr => known_less hgd hr
  obtain ⟨V, hV⟩ : ∃ V, Ex.ev [] (.mk d' l) = V := ⟨_, rfl⟩
  have hzo : V.ok := by rw [← hV]; exact ev_ok (fun f hf => by simp at hf) _ hgd.2.2
  have hcon : conB (.mk d' l) = true → Ex.fold (.mk d' l) = litE V := fun h => by rw [fold_con h, hV]
  have hcr : conB (.mk d' l) = true → Ex.refs (.mk d' l) = [] := fun h => (conB_iff.1 h).1
  rw [hV] at hval hkl
  obtain ⟨q, hq⟩ : ∃ q, conB (.mk d' l) = q := ⟨_, rfl⟩
  rw [hq] at hcon hkl hcr
  obtain ⟨rl, hrl⟩ : ∃ r, Ex.refs (.mk d' l) = r := ⟨_, rfl⟩
  rw [hrl] at hask hkl hcr
  obtain ⟨N, hN⟩ : ∃ N, rl.length = N := ⟨_, rfl⟩
  have hrow : ExS.Row w A l := his
  have hbx := (Box.new w d' A l.length c).below (b_new _ (.cells #[.int .i64 0, .int .i64 0, .int .i64 0, .string ⟨#[]⟩, .string ⟨#[]⟩, .slice none 0 0] 26))
  have hz := EZ.new (w.alloc (.cells #[.int .i64 d'.op, .int .i64 d'.k, .int .i64 d'.n, .string d'.s, .string d'.nm, .slice A l.length c] 26))
  rw [World.size_alloc] at hz
  have hb0 := b_more (b_new w (.cells #[.int .i64 d'.op, .int .i64 d'.k, .int .i64 d'.n, .string d'.s, .string d'.nm, .slice A l.length c] 26)) (.cells #[.int .i64 0, .int .i64 0, .int .i64 0, .string ⟨#[]⟩, .string ⟨#[]⟩, .slice none 0 0] 26)
  obtain ⟨W, hW⟩ : ∃ W, (w.alloc (.cells #[.int .i64 d'.op, .int .i64 d'.k, .int .i64 d'.n, .string d'.s, .string d'.nm, .slice A l.length c] 26)).alloc (.cells #[.int .i64 0, .int .i64 0, .int .i64 0, .string ⟨#[]⟩, .string ⟨#[]⟩, .slice none 0 0] 26) = W := ⟨_, rfl⟩
  rw [hW] at hbx hz hb0
  have hWs : w.heap.size + 2 ≤ W.heap.size := by have := hz.lt; omega
  have HA := Lib.hid (hask W hb0)
  have HVl := Lib.hid hval
  have HCp := Lib.hid hcpy
  have HX := Lib.hid hbx
  have HZ := Lib.hid hz
  have HB := Lib.hid hb0
  have HW := Lib.hid hW
  have HRow := Lib.hid hrow
  have HI := Lib.hid ih
  have HG := Lib.hid hgd
  have HQ := Lib.hid hq
  have HS := Lib.hid (And.intro hs1 hs2)
  have HCon := Lib.hid hcon
  have HCr := Lib.hid hcr
  have HKl := Lib.hid hkl
  have HN := Lib.hid hN
  have HOk := Lib.hid hzo
  obtain ⟨m0, m1, m2, m3, m4, m5⟩ := hbx.cells
  clear hask hval hcpy hbx hz hb0 hrow ih hgd hq hs1 hs2 his hm hcon hkl hcr hN hrl hW hV hf0 e1 e2 hzo
  go_enter Tryz.func23, Tryz.ntmps23
  go_upto_region 1 with fail
  rw [HW.out]
  go_wp2_with fail
  refine HA.out.mono ?_; rintro e w1 ⟨v, rfl, hown, hb1⟩
  rw [HN.out] at hown
  obtain ⟨A1, c1, rfl⟩ := str_slice hown
  have HB1 := Lib.hid hb1
  have hx1 := HX.out.below hb1
  clear m0 m1 m2 m3 m4 m5 hown hb1
  obtain ⟨m0, m1, m2, m3, m4, m5⟩ := hx1.cells
  go_upto_if 9 with (fail)
  go_cut [3] (fun _ wx => q = false ∧ Below W.heap.size W wx)
  case first =>
    by_cases h0 : N = 0
    · subst h0
      have hrl0 : rl = [] := List.eq_nil_of_length_eq_zero HN.out
      have hkl := HKl.out hrl0
      have hc := HVl.out w1 (b_trans HB.out HB1.out)
      obtain ⟨vk, vn, vs⟩ := V
      have HC := Lib.hid hc
      simp only at hkl
      have HKl2 := Lib.hid hkl
      clear hc hkl hrl0 hx1
      go_wp2_with fail
      refine HC.out.mono ?_; rintro e w2 ⟨rfl, hb2⟩
      have hz2 := (HZ.out.below HB1.out).below hb2
      have hbw2 := b_trans (b_trans HB.out HB1.out) hb2
      have hbW2 := b_trans HB1.out hb2
      have hw2s := hbW2.size
      have hz3 := hz2.below (b_new w2 (.cells #[.int .i64 vk, .int .i64 vn, .string vs] 23))
      have hv3 := BV.new w2 vk vn vs
      have hbw3 := b_more hbw2 (.cells #[.int .i64 vk, .int .i64 vn, .string vs] 23)
      have hbW3 := b_more hbW2 (.cells #[.int .i64 vk, .int .i64 vn, .string vs] 23)
      obtain ⟨Y, hY⟩ : ∃ Y, w2.alloc (.cells #[.int .i64 vk, .int .i64 vn, .string vs] 23) = Y := ⟨_, rfl⟩
      rw [hY] at hz3 hv3 hbw3 hbW3
      obtain ⟨u0, u1, u2⟩ := hv3.cells
      have hYs : w.heap.size + 2 ≤ Y.heap.size := by have := hv3.lt; omega
      have c0 := hz3.cell
      have f0 := hz3.frozen
      have zl := hz3.lt
      have HY := Lib.hid hY
      have HBw := Lib.hid hbw3
      have HBW := Lib.hid hbW3
      clear hb2 hz2 hbw2 hbW2 hw2s hz3 hv3 hbw3 hbW3 hY m0 m1 m2 m3 m4 m5
      go_upto_region 3 with fail
      rw [HY.out]
      by_cases hneg : vk = 1 ∧ vn < 0
      · obtain ⟨hk1, hn0⟩ := hneg
        subst hk1
        have hok := HOk.out
        have hvn : okN vn = true ∧ vs = e0 := by
          rcases ok_cases hok with h | h | h | h | h
          · exact h.2
          · exact absurd (show (1 : Int) = 2 from h.1) (by decide)
          · exact absurd (show (1 : Int) = 3 from h.1) (by decide)
          · exact absurd (show (1 : Int) = 4 from h.1) (by decide)
          · exact absurd (show (1 : Int) = 5 from h.1) (by decide)
        obtain ⟨hvn, hvs⟩ := hvn
        have hw : IntKind.i64.wrap (-vn) = -vn := IntWalk.i64_in _ (by unfold okN at hvn; simp only [decide_eq_true_eq] at hvn; omega)
        have hq1 : q = true := by rw [HKl2.out]; rfl
        have hfe := HCon.out hq1
        rw [litE_neg ⟨rfl, hn0⟩, hvs] at hfe
        have HFE := Lib.hid hfe
        have HE := Lib.hid (neg_end (x := .mk (constN ⟨1, -vn, e0⟩) []) (d := constN ⟨1, -vn, e0⟩) (B := none) (m := 0) (c := 0) HBw.out hYs (isP_leaf _ _ _ _ (Nat.zero_le _) (Nat.zero_le _)))
        clear hok hvn hq1 hfe hvs HKl2
        go_wp2_with fail
        refine bodyPost_ret (v := .agg #[.int .i64 3, .int .i64 0, .int .i64 0, .string ⟨#[]⟩, .string ⟨#[]⟩, .slice (some ⟨Y.heap.size, 0, none⟩) 1 1]) (by simp [results, Tryz.results23, go_sem, c0, zl]) rfl ?_
        rw [HFE.out]
        exact ⟨negN, some ⟨Y.heap.size, 0, none⟩, 1, 1, rfl, (HE.out _ _ _ _ _ _).1, (HE.out _ _ _ _ _ _).2⟩
      · by_cases h4 : vk < 4
        · have hq1 : q = true := by rw [HKl2.out]; exact decide_eq_true h4
          have hfe := HCon.out hq1
          rw [litE_pos hneg] at hfe
          have HFE := Lib.hid hfe
          have hsz : vs.size ≤ maxLen := by have := ok_short HOk.out; simp only at this; unfold maxLen; omega
          have HE := Lib.hid (made_end (y := .mk (constN ⟨vk, vn, vs⟩) []) (d := constN ⟨vk, vn, vs⟩) (A := none) (n := 0) HBw.out (isP_leaf _ _ _ _ hsz (Nat.zero_le _)))
          clear hq1 hfe HKl2 hsz
          by_cases h1 : vk = 1
          · have t1 : (vk == 1) = true := by simp [h1]
            have t2 : ¬ vn < 0 := fun h => hneg ⟨h1, h⟩
            clear hneg h1
            go_wp2_with fail
            refine bodyPost_ret (v := .agg #[.int .i64 1, .int .i64 vk, .int .i64 vn, .string vs, .string ⟨#[]⟩, .slice none 0 0]) (by simp [results, Tryz.results23, go_sem, c0]) rfl ?_
            rw [HFE.out]
            exact ⟨constN ⟨vk, vn, vs⟩, none, 0, 0, rfl, (HE.out _ _ _ _ _ _).1, (HE.out _ _ _ _ _ _).2⟩
          · have t1 : (vk == 1) = false := beq_eq_false_iff_ne.2 h1
            clear hneg h1
            go_wp2_with fail
            refine bodyPost_ret (v := .agg #[.int .i64 1, .int .i64 vk, .int .i64 vn, .string vs, .string ⟨#[]⟩, .slice none 0 0]) (by simp [results, Tryz.results23, go_sem, c0]) rfl ?_
            rw [HFE.out]
            exact ⟨constN ⟨vk, vn, vs⟩, none, 0, 0, rfl, (HE.out _ _ _ _ _ _).1, (HE.out _ _ _ _ _ _).2⟩
        · have hq0 : q = false := by rw [HKl2.out]; exact decide_eq_false h4
          have HQ0 := Lib.hid hq0
          have t1 : (vk == 1) = false := beq_eq_false_iff_ne.2 (by omega)
          clear hq0 HKl2 hneg
          go_wp2_with fail
          go_meet
          exact ⟨HQ0.out, HBW.out⟩
    · have t1 : ((N : Int) == 0) = false := beq_eq_false_iff_ne.2 (by omega)
      have hq : q = false := by
        rw [← Bool.not_eq_true]
        intro h
        exact h0 (by rw [← HN.out, HCr.out h]; rfl)
      have HQ2 := Lib.hid hq
      clear hq h0
      go_wp2_with fail
      go_meet
      exact ⟨HQ2.out, HB1.out⟩
  case rest =>
    obtain ⟨hq, hbW⟩ := hcut
    have hxc := HX.out.below hbW
    have hzc := HZ.out.below hbW
    have hbw := b_trans HB.out hbW
    have hws : w.heap.size + 2 ≤ wc.heap.size := by have := hbW.size; omega
    have hc := HCp.out wc hbw
    have HC := Lib.hid hc
    have HQ0 := Lib.hid hq
    clear m0 m1 m2 m3 m4 m5
    obtain ⟨m0, m1, m2, m3, m4, m5⟩ := hxc.cells
    clear hc hq HVl HCp HKl HCr HCon HX HZ HA HOk hbW
    go_wp2_with fail
    refine HC.out.mono ?_; rintro e w2 ⟨es0, v, rfl, ⟨hk1, hk2, hk3⟩, hb2⟩
    have hes : es0.length = l.length := by have := congrArg List.length hk1; rwa [List.length_map] at this
    have hSI : RInv w Ex.fold d' l A c w2.heap.size v 0 es0 (w2.alloc (.cells #[.int .i64 d'.op, .int .i64 d'.k, .int .i64 d'.n, .string d'.s, .string d'.nm, v] 26)) := by
      refine ⟨Nat.zero_le _, by rw [hk1]; simp, by rw [← hes]; exact (NmR.own_base hk2 (by omega)).alloc _, fun e he => ((hk3 e he).imp fun b hb _ => ⟨by have := hb.1; omega, hb.2⟩).below (b_new _ _), (hxc.below hb2).below (b_new _ _), (hzc.below hb2).below (b_new _ _), World.alloc_heap_new w2 _, by have := hb2.size; omega, fun e => ?_, b_more (b_trans hbw hb2) _⟩
      have := (hk2.lt _ e.symm).2; omega
    have HSI := Lib.hid hSI
    obtain ⟨Av, cv, hv⟩ := str_slice hk2
    rw [hes] at hv
    subst hv
    clear hSI hk1 hk2 hk3 hb2 hes hxc hzc hbw m0 m1 m2 m3 m4 m5
    go_wp2_with fail
    go_loopw [5, 37] (fun _ i wr => ∃ (k : Nat) (es : List El), i = .int .i64 k ∧ RInv w Ex.fold d' l A c w2.heap.size (.slice Av l.length cv) k es wr) (fun _ i _ => l.length - (intOf i).toNat)
    case atStart => exact ⟨0, es0, rfl, HSI.out⟩
    case round =>
      obtain ⟨k, es, rfl, hI⟩ := hrel
      have hle := hI.le
      have HI2 := Lib.hid hI
      by_cases hlt : k < l.length
      · obtain ⟨a, d2, B2, m2, c2, rfl, hat, hi2⟩ := HRow.out k hlt
        obtain ⟨g, cap, hv, hg3, hgl, hgc, hcm, hcl⟩ := GenL.own_form hI.own (by omega)
        injection hv with hv1 hv2 hv3
        subst hv1 hv3
        have hbt := hI.bt
        have z5 : wr.cell? ⟨w2.heap.size, 5, none⟩ = some (.slice (some ⟨g, 0, none⟩) l.length cv) := by simp [World.cell?, hbt]
        have lz := (Array.getElem?_eq_some_iff.1 hbt).1
        obtain ⟨_, _, _, _, _, x5⟩ := hI.bx.cells
        have l0 := hI.bx.lt
        have hat2 := hat.below hI.below
        have hal := hat2.lt
        obtain ⟨f0, f1, f2, f3, f4, f5⟩ := hat2
        have haw := hat.lt
        have hgl2 : g < wr.heap.size := (hI.own.lt g rfl).2
        have hgB : w2.heap.size ≠ g := fun e => hI.hv (by rw [e]; rfl)
        have hg0 : w.heap.size ≠ g := by omega
        have hga : (a.add (k * 6)).block ≠ g := by rw [block_of_add] at haw ⊢; omega
        have hen : es.length = l.length := hI.len
        have gc : ∀ j (h : j < l.length * 6), wr.cell? ⟨g, j, none⟩ = some ((elC es)[j]'(by rw [elC_len, hen]; exact h)) := fun j h => (hcl j h).trans (List.getElem?_eq_getElem (by rw [elC_len, hen]; exact h))
        have gz := hI.own.frozenAt
        obtain ⟨v0, g0⟩ : ∃ v, wr.cell? ⟨g, k * 6, none⟩ = some v := ⟨_, gc (k * 6) (by omega)⟩
        obtain ⟨v1, g1⟩ : ∃ v, wr.cell? ⟨g, k * 6 + 1, none⟩ = some v := ⟨_, gc (k * 6 + 1) (by omega)⟩
        obtain ⟨v2, g2⟩ : ∃ v, wr.cell? ⟨g, k * 6 + 2, none⟩ = some v := ⟨_, gc (k * 6 + 2) (by omega)⟩
        obtain ⟨v3, g3⟩ : ∃ v, wr.cell? ⟨g, k * 6 + 3, none⟩ = some v := ⟨_, gc (k * 6 + 3) (by omega)⟩
        obtain ⟨v4, g4⟩ : ∃ v, wr.cell? ⟨g, k * 6 + 4, none⟩ = some v := ⟨_, gc (k * 6 + 4) (by omega)⟩
        obtain ⟨v5, g5⟩ : ∃ v, wr.cell? ⟨g, k * 6 + 5, none⟩ = some v := ⟨_, gc (k * 6 + 5) (by omega)⟩
        have HGc := Lib.hid (show ∀ V, Below wr.heap.size wr V → (V.cell? ⟨g, k * 6, none⟩ = some v0 ∧ V.cell? ⟨g, k * 6 + 1, none⟩ = some v1 ∧ V.cell? ⟨g, k * 6 + 2, none⟩ = some v2 ∧ V.cell? ⟨g, k * 6 + 3, none⟩ = some v3 ∧ V.cell? ⟨g, k * 6 + 4, none⟩ = some v4 ∧ V.cell? ⟨g, k * 6 + 5, none⟩ = some v5) ∧ ∀ j, V.frozen? ⟨g, j, none⟩ = false from fun V hV =>
          ⟨⟨(hV.cell (p := ⟨g, k * 6, none⟩) hgl2).trans g0, (hV.cell (p := ⟨g, k * 6 + 1, none⟩) hgl2).trans g1, (hV.cell (p := ⟨g, k * 6 + 2, none⟩) hgl2).trans g2, (hV.cell (p := ⟨g, k * 6 + 3, none⟩) hgl2).trans g3, (hV.cell (p := ⟨g, k * 6 + 4, none⟩) hgl2).trans g4, (hV.cell (p := ⟨g, k * 6 + 5, none⟩) hgl2).trans g5⟩, fun j => (hV.frozen (p := ⟨g, j, none⟩) hgl2).trans (gz j)⟩)
        have HCells := Lib.hid (show ∀ V, Below wr.heap.size wr V → (V.cell? ⟨w2.heap.size, 5, none⟩ = some (.slice (some ⟨g, 0, none⟩) l.length cv) ∧ V.cell? ⟨w.heap.size, 5, none⟩ = some (.slice (some a) l.length c) ∧ V.cell? (a.add (k * 6)) = some (.int .i64 d2.op) ∧ V.cell? ⟨(a.add (k * 6)).block, (a.add (k * 6)).off + 1, none⟩ = some (.int .i64 d2.k) ∧ V.cell? ⟨(a.add (k * 6)).block, (a.add (k * 6)).off + 2, none⟩ = some (.int .i64 d2.n) ∧ V.cell? ⟨(a.add (k * 6)).block, (a.add (k * 6)).off + 3, none⟩ = some (.string d2.s) ∧ V.cell? ⟨(a.add (k * 6)).block, (a.add (k * 6)).off + 4, none⟩ = some (.string d2.nm) ∧ V.cell? ⟨(a.add (k * 6)).block, (a.add (k * 6)).off + 5, none⟩ = some (.slice B2 m2 c2)) from fun V hV => ⟨(hV.cell (p := ⟨w2.heap.size, 5, none⟩) lz).trans z5, (hV.cell (p := ⟨w.heap.size, 5, none⟩) l0).trans x5, (hV.cell (p := (a.add (k * 6))) hal).trans f0, (hV.cell (p := ⟨(a.add (k * 6)).block, (a.add (k * 6)).off + 1, none⟩) hal).trans f1, (hV.cell (p := ⟨(a.add (k * 6)).block, (a.add (k * 6)).off + 2, none⟩) hal).trans f2, (hV.cell (p := ⟨(a.add (k * 6)).block, (a.add (k * 6)).off + 3, none⟩) hal).trans f3, (hV.cell (p := ⟨(a.add (k * 6)).block, (a.add (k * 6)).off + 4, none⟩) hal).trans f4, (hV.cell (p := ⟨(a.add (k * 6)).block, (a.add (k * 6)).off + 5, none⟩) hal).trans f5⟩)
        have HSet := Lib.hid (show ∀ U u0 u1 u2 u3 u4 u5, Below wr.heap.size wr U → ∀ V, V = ((((((U.setCell ⟨g, k * 6, none⟩ u0).setCell ⟨g, k * 6 + 1, none⟩ u1).setCell ⟨g, k * 6 + 2, none⟩ u2).setCell ⟨g, k * 6 + 3, none⟩ u3).setCell ⟨g, k * 6 + 4, none⟩ u4).setCell ⟨g, k * 6 + 5, none⟩ u5) → (V.cell? ⟨w2.heap.size, 5, none⟩ = some (.slice (some ⟨g, 0, none⟩) l.length cv) ∧ V.cell? ⟨w.heap.size, 5, none⟩ = some (.slice (some a) l.length c) ∧ V.cell? (a.add (k * 6)) = some (.int .i64 d2.op) ∧ V.cell? ⟨(a.add (k * 6)).block, (a.add (k * 6)).off + 1, none⟩ = some (.int .i64 d2.k) ∧ V.cell? ⟨(a.add (k * 6)).block, (a.add (k * 6)).off + 2, none⟩ = some (.int .i64 d2.n) ∧ V.cell? ⟨(a.add (k * 6)).block, (a.add (k * 6)).off + 3, none⟩ = some (.string d2.s) ∧ V.cell? ⟨(a.add (k * 6)).block, (a.add (k * 6)).off + 4, none⟩ = some (.string d2.nm) ∧ V.cell? ⟨(a.add (k * 6)).block, (a.add (k * 6)).off + 5, none⟩ = some (.slice B2 m2 c2)) from fun U u0 u1 u2 u3 u4 u5 hU V hV6 => by
          subst hV6
          obtain ⟨s0, s1, s2, s3, s4, s5, s6, s7⟩ := HCells.out U hU
          have q := fun (p : Addr) (h : p.block ≠ g) => World.cell?_of_block (a := p) (set6_block (w := U) (i := k * 6) h u0 u1 u2 u3 u4 u5)
          exact ⟨(q ⟨w2.heap.size, 5, none⟩ hgB).trans s0, (q ⟨w.heap.size, 5, none⟩ hg0).trans s1, (q (a.add (k * 6)) hga).trans s2, (q ⟨(a.add (k * 6)).block, (a.add (k * 6)).off + 1, none⟩ hga).trans s3, (q ⟨(a.add (k * 6)).block, (a.add (k * 6)).off + 2, none⟩ hga).trans s4, (q ⟨(a.add (k * 6)).block, (a.add (k * 6)).off + 3, none⟩ hga).trans s5, (q ⟨(a.add (k * 6)).block, (a.add (k * 6)).off + 4, none⟩ hga).trans s6, (q ⟨(a.add (k * 6)).block, (a.add (k * 6)).off + 5, none⟩ hga).trans s7⟩)
        have hck := fun V (hV : Below wr.heap.size wr V) => HI.out l[k] (List.getElem_mem hlt) d2 B2 m2 c2 V (HG.out.arg (List.getElem_mem hlt)) ((hi2.below hI.below).below hV)
        have HCk := Lib.hid hck
        have hbl : Below wr.heap.size wr wr := Below.refl _ _
        clear hI hat hi2 hbt gc g0 g1 g2 g3 g4 g5 gz hck hen hcl haw
        go_wp2_with fail
        go_region_held3 (fun V => (V.cell? ⟨w2.heap.size, 5, none⟩ = some (.slice (some ⟨g, 0, none⟩) l.length cv) ∧ V.cell? ⟨w.heap.size, 5, none⟩ = some (.slice (some a) l.length c) ∧ V.cell? (a.add (k * 6)) = some (.int .i64 d2.op) ∧ V.cell? ⟨(a.add (k * 6)).block, (a.add (k * 6)).off + 1, none⟩ = some (.int .i64 d2.k) ∧ V.cell? ⟨(a.add (k * 6)).block, (a.add (k * 6)).off + 2, none⟩ = some (.int .i64 d2.n) ∧ V.cell? ⟨(a.add (k * 6)).block, (a.add (k * 6)).off + 3, none⟩ = some (.string d2.s) ∧ V.cell? ⟨(a.add (k * 6)).block, (a.add (k * 6)).off + 4, none⟩ = some (.string d2.nm) ∧ V.cell? ⟨(a.add (k * 6)).block, (a.add (k * 6)).off + 5, none⟩ = some (.slice B2 m2 c2))) (first | (with_reducible exact HCells.out _ hbl) | (with_reducible exact HCells.out _ (b_drew hbl)) | (with_reducible exact HSet.out _ _ _ _ _ _ _ hbl _ rfl)) (first | (go_at_call 23; (with_reducible refine (HCk.out _ ?_).mono ?_); (first | exact hbl | exact b_drew hbl); rintro e w5 ⟨d5, B5, m5, c5, rfl, hi5, hb5⟩; have hi6 := hi5.imp (Q := fun b => wr.drew.heap.size ≤ b) (fun b h1 h2 => Nat.le_trans hbl.size h1); have hbl : Below wr.heap.size wr w5 := (by (first | (exact b_trans hbl hb5) | (exact b_trans (b_drew hbl) hb5))); obtain ⟨⟨p0, p1, p2, p3, p4, p5⟩, pz⟩ := HGc.out w5 hbl; have HX5 := Lib.hid (And.intro hi6 hbl); clear hi5 hi6 hb5))
        all_goals
          have hN := HI2.out.step (c5 := c5) hlt HX5.out.1 HX5.out.2
          have HN := Lib.hid hN
          clear hN HX5 HCk HCells HGc HSet p0 p1 p2 p3 p4 p5 pz hbl
          go_wp2_with fail
          go_roundw
          case rel => exact ⟨k + 1, _, by go_num, HN.out⟩
          case measure => simp [intOf]; omega
      · have hkl : k = l.length := by omega
        subst hkl
        obtain ⟨A2, c2, hv2, hfi⟩ := hI.fin HS.out.1 HS.out.2
        injection hv2 with q1 q2 q3
        subst q1 q3
        have hbt := hI.bt
        have b0 : wr.cell? ⟨w2.heap.size, 0, none⟩ = some (.int .i64 d'.op) := by simp [World.cell?, hbt]
        have b1 : wr.cell? ⟨w2.heap.size, 1, none⟩ = some (.int .i64 d'.k) := by simp [World.cell?, hbt]
        have b2 : wr.cell? ⟨w2.heap.size, 2, none⟩ = some (.int .i64 d'.n) := by simp [World.cell?, hbt]
        have b3 : wr.cell? ⟨w2.heap.size, 3, none⟩ = some (.string d'.s) := by simp [World.cell?, hbt]
        have b4 : wr.cell? ⟨w2.heap.size, 4, none⟩ = some (.string d'.nm) := by simp [World.cell?, hbt]
        have b5 : wr.cell? ⟨w2.heap.size, 5, none⟩ = some (.slice Av l.length cv) := by simp [World.cell?, hbt]
        have c0 := hI.bz.cell
        have f0 := hI.bz.frozen
        have zl := hI.bz.lt
        have HE := Lib.hid (made_end hI.below hfi)
        have hmap : es.map El.x = l.map Ex.fold := by rw [hI.ex, List.take_length, List.drop_length, List.append_nil]
        have hnode : ¬ (d'.op = 17 ∧ isBoolE ((l.map Ex.fold).getD 0 zeroE) = true) → Ex.fold (.mk d' l) = .mk d' (l.map Ex.fold) := fun h => fold_node (by rw [HQ.out, HQ0.out]; decide) h
        have HNode := Lib.hid hnode
        by_cases hop : d'.op = 17
        · have h3 : l.length = 3 := by rw [(TyM.okN_op HG.out.2.2).2.2]; exact (arity_cases d'.op).1 hop
          have he3 : es.length = 3 := hI.len.trans h3
          obtain ⟨g, cap, hv, hg3, hgl, hgc, hcm, hcl⟩ := GenL.own_form hI.own (by omega)
          injection hv with hv1 hv2 hv3
          subst hv1 hv3
          have hall := hI.is
          have hbel := hI.below
          obtain ⟨e0, e1, e2, rfl⟩ := EvP.len3 he3
          have hq : ∀ j, j < 18 → wr.cell? ⟨g, j, none⟩ = (elC [e0, e1, e2])[j]? := fun j hj => hcl j (by rw [h3]; exact hj)
          have q0 : wr.cell? ⟨g, 0, none⟩ = some (.int .i64 e0.d.op) := hq 0 (by decide)
          have q1 : wr.cell? ⟨g, 1, none⟩ = some (.int .i64 e0.d.k) := hq 1 (by decide)
          have q2 : wr.cell? ⟨g, 2, none⟩ = some (.int .i64 e0.d.n) := hq 2 (by decide)
          have q3 : wr.cell? ⟨g, 3, none⟩ = some (.string e0.d.s) := hq 3 (by decide)
          have q6 : wr.cell? ⟨g, 6, none⟩ = some (.int .i64 e1.d.op) := hq 6 (by decide)
          have q7 : wr.cell? ⟨g, 7, none⟩ = some (.int .i64 e1.d.k) := hq 7 (by decide)
          have q8 : wr.cell? ⟨g, 8, none⟩ = some (.int .i64 e1.d.n) := hq 8 (by decide)
          have q9 : wr.cell? ⟨g, 9, none⟩ = some (.string e1.d.s) := hq 9 (by decide)
          have q10 : wr.cell? ⟨g, 10, none⟩ = some (.string e1.d.nm) := hq 10 (by decide)
          have q11 : wr.cell? ⟨g, 11, none⟩ = some (.slice e1.A e1.n e1.c) := hq 11 (by decide)
          have q12 : wr.cell? ⟨g, 12, none⟩ = some (.int .i64 e2.d.op) := hq 12 (by decide)
          have q13 : wr.cell? ⟨g, 13, none⟩ = some (.int .i64 e2.d.k) := hq 13 (by decide)
          have q14 : wr.cell? ⟨g, 14, none⟩ = some (.int .i64 e2.d.n) := hq 14 (by decide)
          have q15 : wr.cell? ⟨g, 15, none⟩ = some (.string e2.d.s) := hq 15 (by decide)
          have q16 : wr.cell? ⟨g, 16, none⟩ = some (.string e2.d.nm) := hq 16 (by decide)
          have q17 : wr.cell? ⟨g, 17, none⟩ = some (.slice e2.A e2.n e2.c) := hq 17 (by decide)
          have HE1 := Lib.hid (made_end hbel ((hall e1 (by simp)).imp (Q := fun b => w.heap.size + 2 ≤ b) fun b hb _ => hb.1))
          have HE2 := Lib.hid (made_end hbel ((hall e2 (by simp)).imp (Q := fun b => w.heap.size + 2 ≤ b) fun b hb _ => hb.1))
          have hd0 : e0.x.d = e0.d := isP_d (hall e0 (by simp))
          have hgd0 : ((l.map Ex.fold).getD 0 zeroE) = e0.x := by rw [← hmap]; rfl
          have hok0 : e0.x.okN := by
            have : e0.x ∈ l.map Ex.fold := by rw [← hmap]; simp
            obtain ⟨y, hy, e⟩ := List.mem_map.1 this
            rw [← e]
            exact (fold_less y (HG.out.arg hy).2.2).1
          have hbb : isBoolE ((l.map Ex.fold).getD 0 zeroE) = (decide (e0.d.op = 1) && decide (e0.d.k = 2)) := by rw [hgd0]; unfold isBoolE; rw [hd0]
          have hfe : e0.d.op = 1 → e0.d.k = 2 → Ex.fold (.mk d' l) = (chosenEl e0 e1 e2).x := fun h1 h2 => by
            rw [fold_if (by rw [HQ.out, HQ0.out]; decide) ⟨hop, by rw [hbb, h1, h2]; rfl⟩, ← hmap]
            exact chosen_x e0 e1 e2 hd0
          have HFold := Lib.hid hfe
          have HBb := Lib.hid hbb
          rw [h3] at b5
          rw [h3]
          have hkn : e0.d.op = 1 → knownB e0.d.k e0.d.n e0.d.s.data.toList = true := fun h => by
            rw [← hd0]
            have hx0 : e0.x = .mk e0.x.d e0.x.args := by cases e0.x; rfl
            rw [hx0] at hok0
            exact okN_const hok0 (by rw [hd0]; exact h)
          have HKn := Lib.hid hkn
          rw [h3] at HE
          clear hq hall hbel hd0 hgd0 hok0 hbb hfe hkn hcl hfi hI hbt hmap he3 HI2 HSI hnode
          by_cases h1 : e0.d.op = 1
          · have t1 : (e0.d.op == 1) = true := by simp [h1]
            have t17 : (d'.op == 17) = true := by simp [hop]
            have hk := known_kind (HKn.out h1)
            have hok := known_ok (HKn.out h1)
            by_cases h2 : e0.d.k = 2
            · have hF := HFold.out h1 h2
              have hn : (e0.d.n = 0 ∨ e0.d.n = 1) ∧ e0.d.s = EvM.e0 := by
                rcases ok_cases hok with h | h | h | h | h
                · exact absurd (h2.symm.trans h.1) (by decide)
                · exact h.2
                · exact absurd (h2.symm.trans h.1) (by decide)
                · exact absurd (h2.symm.trans h.1) (by decide)
                · exact absurd (h2.symm.trans h.1) (by decide)
              obtain ⟨hn, hs⟩ := hn
              rw [h2] at q1
              rw [hs] at q3
              rcases hn with hn | hn
              · have hce : chosenEl e0 e1 e2 = e2 := by unfold chosenEl; rw [if_neg (by omega)]
                rw [hce] at hF
                rw [hn] at q2
                have HFe := Lib.hid hF
                clear hF hce hn hs h1 h2 hk hok HFold HKn HNode hop
                go_wp2_with fail
                refine bodyPost_ret (v := .agg #[.int .i64 e2.d.op, .int .i64 e2.d.k, .int .i64 e2.d.n, .string e2.d.s, .string e2.d.nm, .slice e2.A e2.n e2.c]) (by simp [results, Tryz.results23, go_sem, c0]) rfl ?_
                rw [HFe.out]
                exact ⟨e2.d, e2.A, e2.n, e2.c, rfl, (HE2.out _ _ _ _ _ _).1, (HE2.out _ _ _ _ _ _).2⟩
              · have hce : chosenEl e0 e1 e2 = e1 := by unfold chosenEl; rw [if_pos hn]
                rw [hce] at hF
                rw [hn] at q2
                have HFe := Lib.hid hF
                clear hF hce hn hs h1 h2 hk hok HFold HKn HNode hop
                go_wp2_with fail
                refine bodyPost_ret (v := .agg #[.int .i64 e1.d.op, .int .i64 e1.d.k, .int .i64 e1.d.n, .string e1.d.s, .string e1.d.nm, .slice e1.A e1.n e1.c]) (by simp [results, Tryz.results23, go_sem, c0]) rfl ?_
                rw [HFe.out]
                exact ⟨e1.d, e1.A, e1.n, e1.c, rfl, (HE1.out _ _ _ _ _ _).1, (HE1.out _ _ _ _ _ _).2⟩
            · have t2 : (e0.d.k == 2) = false := beq_eq_false_iff_ne.2 h2
              have HNb := Lib.hid (show ¬ (d'.op = 17 ∧ isBoolE ((l.map Ex.fold).getD 0 zeroE) = true) from fun h => by rw [HBb.out] at h; simp [h2] at h)
              clear h1 h2 hk hok HFold HKn hop
              go_wp2_with fail
              refine bodyPost_ret (v := .agg #[.int .i64 d'.op, .int .i64 d'.k, .int .i64 d'.n, .string d'.s, .string d'.nm, .slice (some ⟨g, 0, none⟩) 3 cv]) (by simp [results, Tryz.results23, go_sem, c0]) rfl ?_
              rw [HNode.out HNb.out]
              exact ⟨d', some ⟨g, 0, none⟩, 3, cv, rfl, (HE.out _ _ _ _ _ _).1, (HE.out _ _ _ _ _ _).2⟩
          · have t1 : (e0.d.op == 1) = false := beq_eq_false_iff_ne.2 h1
            have t17 : (d'.op == 17) = true := by simp [hop]
            have HNb := Lib.hid (show ¬ (d'.op = 17 ∧ isBoolE ((l.map Ex.fold).getD 0 zeroE) = true) from fun h => by rw [HBb.out] at h; simp [h1] at h)
            clear h1 HFold HKn hop
            go_wp2_with fail
            refine bodyPost_ret (v := .agg #[.int .i64 d'.op, .int .i64 d'.k, .int .i64 d'.n, .string d'.s, .string d'.nm, .slice (some ⟨g, 0, none⟩) 3 cv]) (by simp [results, Tryz.results23, go_sem, c0]) rfl ?_
            rw [HNode.out HNb.out]
            exact ⟨d', some ⟨g, 0, none⟩, 3, cv, rfl, (HE.out _ _ _ _ _ _).1, (HE.out _ _ _ _ _ _).2⟩
        · have t17 : (d'.op == 17) = false := beq_eq_false_iff_ne.2 hop
          have HNb := Lib.hid (show ¬ (d'.op = 17 ∧ isBoolE ((l.map Ex.fold).getD 0 zeroE) = true) from fun h => hop h.1)
          clear hop hfi hI hbt hmap HI2 HSI hnode
          go_wp2_with fail
          refine bodyPost_ret (v := .agg #[.int .i64 d'.op, .int .i64 d'.k, .int .i64 d'.n, .string d'.s, .string d'.nm, .slice Av l.length cv]) (by simp [results, Tryz.results23, go_sem, c0]) rfl ?_
          rw [HNode.out HNb.out]
          exact ⟨d', Av, l.length, cv, rfl, (HE.out _ _ _ _ _ _).1, (HE.out _ _ _ _ _ _).2⟩
set_option maxRecDepth 100000 in
set_option maxHeartbeats 2000000 in
theorem refFold_any (x : Ex) (d : Nd) (A : Option Addr) (n c : Nat) (w : World) (hx : x.nodes ≤ 1048576) (his : Is w x d A n) :
    Calls Tryz.prog 9 #[.agg #[.int .i64 d.op, .int .i64 d.k, .int .i64 d.n, .string d.s, .string d.nm, .slice A n c]] w (FoldOut x w) := by
  have hck := fun W (hb : Below w.heap.size w W) => ExR.fault_any x d A n c W (by omega) (his.below hb)
  have hsi := fun W (hb : Below w.heap.size w W) (h : x.checkE = 0) => folded_any x d A n c W (checkE_zero h) (his.below hb)
  have hbx := (Box.new w d A n c).below (b_new _ (.cells #[.int .i64 0, .int .i64 0, .int .i64 0, .string ⟨#[]⟩, .string ⟨#[]⟩, .slice none 0 0] 26))
  have hz := EZ.new (w.alloc (.cells #[.int .i64 d.op, .int .i64 d.k, .int .i64 d.n, .string d.s, .string d.nm, .slice A n c] 26))
  rw [World.size_alloc] at hz
  have hb0 := b_more (b_new w (.cells #[.int .i64 d.op, .int .i64 d.k, .int .i64 d.n, .string d.s, .string d.nm, .slice A n c] 26)) (.cells #[.int .i64 0, .int .i64 0, .int .i64 0, .string ⟨#[]⟩, .string ⟨#[]⟩, .slice none 0 0] 26)
  obtain ⟨R, hR⟩ : ∃ R, x.checkE = R := ⟨_, rfl⟩
  have hfo : ∀ (e : Ending) (W' : World) d B m c, e = .returned (.tuple #[.agg #[.int .i64 d.op, .int .i64 d.k, .int .i64 d.n, .string d.s, .string d.nm, .slice B m c], .int .i64 R]) → IsP (fun b => w.heap.size ≤ b) W' (if R = 0 then Ex.fold x else zeroE) d B m → Below w.heap.size w W' → FoldOut x w e W' := fun e W' d B m c h1 h2 h3 => by
    unfold FoldOut foldR; rw [hR]; exact ⟨d, B, m, c, h1, h2, h3⟩
  rw [hR] at hck hsi
  have HCk := Lib.hid hck
  have HSi := Lib.hid hsi
  have HX := Lib.hid hbx
  have HZ := Lib.hid hz
  have HB := Lib.hid hb0
  have HFo := Lib.hid hfo
  clear hck hsi hbx hz hb0 hfo hR his
  go_enter Tryz.func9, Tryz.ntmps9
  go_wp2_with fail
  refine (HCk.out _ HB.out).mono ?_; rintro e w1 ⟨rfl, hb1⟩
  have hx1 := HX.out.below hb1
  have hz1 := HZ.out.below hb1
  have hbw := b_trans HB.out hb1
  by_cases h0 : R = 0
  · subst h0
    obtain ⟨b0, b1, b2, b3, b4, b5⟩ := hx1.cells
    have hc := HSi.out w1 hbw rfl
    have HC := Lib.hid hc
    have HZ1 := Lib.hid hz1
    have HBW := Lib.hid hbw
    have hws : w.heap.size + 2 ≤ w1.heap.size := by have := hb1.size; simpa using this
    clear hc hz1 hbw hb1 hx1
    go_wp2_with fail
    refine HC.out.mono ?_; rintro e w2 ⟨d2, B2, m2, c2, rfl, hi2, hb2⟩
    have hz2 := HZ1.out.below hb2
    have c0 := hz2.cell
    have f0 := hz2.frozen
    have zl := hz2.lt
    have HE := Lib.hid (made_end (b_trans HBW.out hb2) (hi2.imp (Q := fun b => w.heap.size + 2 ≤ b) fun b hb _ => by omega))
    clear hz2 hb2 hi2 b0 b1 b2 b3 b4 b5
    go_wp2_with fail
    refine bodyPost_ret (v := .tuple #[.agg #[.int .i64 d2.op, .int .i64 d2.k, .int .i64 d2.n, .string d2.s, .string d2.nm, .slice B2 m2 c2], .int .i64 0]) (by simp [results, Tryz.results9, go_sem, c0]) rfl ?_
    exact HFo.out _ _ d2 B2 m2 c2 rfl (by rw [if_pos trivial]; exact (HE.out _ _ _ _ _ _).1) (HE.out _ _ _ _ _ _).2
  · have t1 : (R != 0) = true := bne_iff_ne.2 h0
    have c0 := hz1.cell
    have f0 := hz1.frozen
    have zl := hz1.lt
    have HBW := Lib.hid hbw
    have HR := Lib.hid h0
    clear hz1 hbw hb1 hx1 h0 HSi
    go_wp2_with fail
    refine bodyPost_ret (v := .tuple #[.agg #[.int .i64 0, .int .i64 0, .int .i64 0, .string ⟨#[]⟩, .string ⟨#[]⟩, .slice none 0 0], .int .i64 R]) (by simp [results, Tryz.results9, go_sem, c0]) rfl ?_
    exact HFo.out _ _ ⟨0, 0, 0, ⟨#[]⟩, ⟨#[]⟩⟩ none 0 0 rfl (by rw [if_neg HR.out]; exact isP_leaf _ _ _ _ (Nat.zero_le _) (Nat.zero_le _)) (set6_below (i := 0) HBW.out (by omega) _ _ _ _ _ _)
end Go.Proofs.YtehkebncdahmcaaGreatDoor.FoR
