/- Constant folding, the small functions: fold.Closed, constant, literal, isBool, chosen. Constant folding, whole: fold.literal, chosen, simplified, Fold. Constant folding: fold.chosen, fold.simplified, fold.Fold. -/
import Derived.Test.YtehkebncdahmcaaGreatDoorFoMath
import Derived.Test.YtehkebncdahmcaaGreatDoorNmOf
import Derived.Test.YtehkebncdahmcaaGreatDoorEvEval
import Derived.Test.YtehkebncdahmcaaGreatDoorGen
import Derived.Deep.AppendLies
namespace Go.Proofs.YtehkebncdahmcaaGreatDoor.Fo
open Go.RowKit
open ValM LexM NumM ExM NmM EvM EvP FoM Kit ExL ExP ExV ExN NmC NmO Ev EvO EvF EvE
set_option linter.unusedVariables false

theorem rise_empty {L : List ByteArray} : (rise (bytesL L)).length = 0 ↔ L = [] := by
  constructor
  · intro h
    have h1 : rise (bytesL L) = [] := List.eq_nil_of_length_eq_zero h
    match L with
    | [] => rfl
    | t :: r =>
      have := (rise_mem (bytesL (t :: r)) t.data.toList).2 (by unfold bytesL; simp)
      rw [h1] at this; simp at this
  · rintro rfl; rfl
theorem ofL_closed (x : Ex) : (decide (x.checkE = 0) && decide ((ofL x).length = 0)) = (decide (x.checkE = 0) && closedB x) := by
  unfold ofL
  by_cases h : x.checkE = 0
  · rw [if_pos h]
    congr 1
    rw [Bool.eq_iff_iff, decide_eq_true_eq, rise_empty, closed_nil]
  · rw [decide_eq_false h]; rfl
theorem own_slice {w : World} {base : Nat} {e : TypeId} {size : Nat} {v : Value} {n : Nat} {xs : List Value} (h : w.ownsRow base e size v n xs) : ∃ A c, v = .slice A n c := by
  rcases h.2 with ⟨h1, h2⟩ | ⟨g, cap, cur, h1, _⟩
  · exact ⟨none, 0, by rw [h1, h2]⟩
  · exact ⟨_, _, h1⟩
set_option maxRecDepth 100000 in
set_option maxHeartbeats 1000000 in
theorem closed_any (x : Ex) (d : Nd) (A : Option Addr) (m c : Nat) (w : World) (his : Is w x d A m) (hT : Tab w) :
    Calls Tryz.prog 8 #[.agg #[.int .i64 d.op, .int .i64 d.k, .int .i64 d.n, .string d.s, .string d.nm, .slice A m c]] w fun e w' => e = .returned (.tuple #[.bool (decide (x.checkE = 0) && closedB x), .int .i64 x.checkE]) ∧ Below w.heap.size w w' := by
  have hL := ofL_closed x
  have hO := fun o => NmO.of_any x d A m c (w.alloc o) (his.alloc o) (hT.below (b_new w o))
  obtain ⟨R, hR⟩ : ∃ R, x.checkE = R := ⟨_, rfl⟩
  obtain ⟨L, hL2⟩ : ∃ L, ofL x = L := ⟨_, rfl⟩
  obtain ⟨q, hq⟩ : ∃ q, (decide (R = 0) && closedB x) = q := ⟨_, rfl⟩
  rw [hR, hL2] at hO
  rw [hR, hL2, hq] at hL
  rw [hR, hq]
  obtain ⟨N, hN⟩ : ∃ N, L.length = N := ⟨_, rfl⟩
  rw [hN] at hL
  have HO := Lib.hid hO
  have HN := Lib.hid hN
  have HL := Lib.hid hL
  clear hO hL hL2 hN hq hR his hT
  go_enter Tryz.func8, Tryz.ntmps8
  go_wp2_with fail
  refine (HO.out _).mono ?_; rintro e w1 ⟨v, rfl, hown, hb⟩
  rw [HN.out] at hown
  obtain ⟨A1, c1, rfl⟩ := own_slice hown
  have HB := Lib.hid (b_then hb)
  clear hown hb
  by_cases h0 : R = 0
  · subst h0
    by_cases h1 : N = 0
    · subst h1
      have hq : true = q := HL.out
      subst hq
      clear HL HN HO
      go_wp2_with fail
      go_ret2
      exact ⟨rfl, HB.out⟩
    · have hq : false = q := by rw [← HL.out]; simp [h1]
      subst hq
      have t1 : ((N : Int) == 0) = false := beq_eq_false_iff_ne.2 (by omega)
      clear HL HN HO
      go_wp2_with fail
      go_ret2
      exact ⟨by simp, HB.out⟩
  · have hq : false = q := by rw [← HL.out]; simp [h0]
    subst hq
    have t1 : (R == 0) = false := beq_eq_false_iff_ne.2 h0
    clear HL HN HO
    go_wp2_with fail
    go_ret2
    exact ⟨rfl, HB.out⟩
theorem b_step {wc w w' : World} (h : Below wc.heap.size wc w) (h' : Below w.heap.size w w') : Below wc.heap.size wc w' := h.trans (h'.mono h.size)
set_option maxRecDepth 100000 in
set_option maxHeartbeats 2000000 in
theorem constant_any (x : Ex) (d : Nd) (A : Option Addr) (m c : Nat) (w : World) (his : Is w x d A m) (hT : Tab w) (hck : x.checkE = 0) :
    Calls Tryz.prog 35 #[.agg #[.int .i64 d.op, .int .i64 d.k, .int .i64 d.n, .string d.s, .string d.nm, .slice A m c]] w fun e w' => e = .returned (.tuple #[.agg #[.int .i64 (conVl x).k, .int .i64 (conVl x).n, .string (conVl x).s], .bool (conB x)]) ∧ Below w.heap.size w w' := by
  have hC := fun W (hb : Below w.heap.size w W) => closed_any x d A m c W (his.below hb) (hT.below hb)
  have hE := fun W (hb : Below w.heap.size w W) => EvE.of_any x [] none 0 d A m c W (by simp) (fun f hf => by simp at hf) (his.below hb) (fun i hi => absurd hi (by simp)) (hT.below hb)
  obtain ⟨h1, h2⟩ := ofE_ok (fs := []) hck (fun f hf => by simp at hf)
  have hf0 : EvF.fcs [] = [] := rfl
  simp only [hf0, h1, h2, List.length_nil] at hE
  rw [hck] at hC
  simp only [decide_true, Bool.true_and] at hC
  obtain ⟨V, hV⟩ : ∃ V, Ex.ev [] x = V := ⟨_, rfl⟩
  obtain ⟨q, hq⟩ : ∃ q, closedB x = q := ⟨_, rfl⟩
  have hcv : conVl x = if q = true then V else zeroV := by unfold conVl; rw [hq, hV]
  have hcb : conB x = (q && knV V) := by unfold conB; rw [hq, hV]
  rw [hcv, hcb]
  rw [hq] at hC
  rw [hV] at hE
  obtain ⟨vk, vn, vs⟩ := V
  obtain ⟨kb, hkb⟩ : ∃ kb, knownB vk vn vs.data.toList = kb := ⟨_, rfl⟩
  have hK := fun W => Val.known_any vk vn vs W
  rw [hkb] at hK
  have hkv : knV ⟨vk, vn, vs⟩ = kb := hkb
  rw [hkv]
  simp only at hE
  have hbx := (Box.new w d A m c).below (b_new _ (.cells #[.int .i64 0, .int .i64 0, .string ⟨#[]⟩] 23))
  have hz0 := BV.new (w.alloc (.cells #[.int .i64 d.op, .int .i64 d.k, .int .i64 d.n, .string d.s, .string d.nm, .slice A m c] 26)) 0 0 ⟨#[]⟩
  rw [World.size_alloc] at hz0
  have hb1 := b_more (b_new w (.cells #[.int .i64 d.op, .int .i64 d.k, .int .i64 d.n, .string d.s, .string d.nm, .slice A m c] 26)) (.cells #[.int .i64 0, .int .i64 0, .string ⟨#[]⟩] 23)
  have HC := Lib.hid hC
  have HE := Lib.hid hE
  have HK := Lib.hid hK
  have HX := Lib.hid hbx
  have HZ := Lib.hid hz0
  have HB := Lib.hid hb1
  clear hC hE hK hkb hkv hcv hcb hq hV h1 h2 hf0 hbx hz0 hb1 his hT hck
  go_enter Tryz.func35, Tryz.ntmps35
  go_wp2_with fail
  refine (HC.out _ HB.out).mono ?_; rintro e w1 ⟨rfl, hb1⟩
  have HB1 := Lib.hid (b_trans HB.out hb1)
  have HX1 := Lib.hid (HX.out.below hb1)
  have HZ1 := Lib.hid (HZ.out.below hb1)
  clear hb1
  cases q
  · obtain ⟨t0, t1, t2⟩ := HZ1.out.cells
    have v0 := HZ1.out.frozen
    have zl := HZ1.out.lt
    have hbE := b_set3 HB1.out (w.heap.size + 1) (by omega) (.int .i64 0) (.int .i64 0) (.string ⟨#[]⟩)
    have HBE := Lib.hid hbE
    clear hbE
    go_wp2_with fail
    refine bodyPost_ret (v := .tuple #[.agg #[.int .i64 0, .int .i64 0, .string ⟨#[]⟩], .bool false]) (by simp [results, Tryz.results35, go_sem, t0, t1, t2]) rfl ⟨rfl, HBE.out⟩
  · obtain ⟨b0, b1, b2, b3, b4, b5⟩ := HX1.out.cells
    go_wp2_with fail
    refine (HE.out _ HB1.out).mono ?_; rintro e w2 ⟨rfl, hb2⟩
    have hz2 := (HZ1.out.below hb2).below (b_new w2 (.cells #[.int .i64 vk, .int .i64 vn, .string vs] 23))
    have hv2 := BV.new w2 vk vn vs
    have hbE := b_more (b_trans HB1.out hb2) (.cells #[.int .i64 vk, .int .i64 vn, .string vs] 23)
    obtain ⟨Y, hY⟩ : ∃ Y, w2.alloc (.cells #[.int .i64 vk, .int .i64 vn, .string vs] 23) = Y := ⟨_, rfl⟩
    rw [hY] at hz2 hv2 hbE
    obtain ⟨t0, t1, t2⟩ := hz2.cells
    have v0 := hz2.frozen
    have zl := hz2.lt
    obtain ⟨u0, u1, u2⟩ := hv2.cells
    have ul := hv2.lt
    have HBE := Lib.hid hbE
    have HY := Lib.hid hY
    have hbl := Below.refl Y.heap.size Y
    clear hz2 hv2 hbE hY b0 b1 b2 b3 b4 b5 hb2
    go_wp2_with fail
    rw [HY.out]
    go_region_with (go_at_call 60; (with_reducible refine (HK.out _).mono ?_); rintro e w3 ⟨rfl, hb3⟩; have hbl := (by first | exact b_step hbl hb3 | exact b_step (b_drew hbl) hb3 | exact b_step hbl (b_undrew hb3) : Below Y.heap.size Y w3); obtain ⟨c1, d1⟩ := bcell hbl; have z1 := zlt hbl)
    all_goals (go_wp2_with fail; have k0 := (c1 _ _ zl).trans t0; have k1 := (c1 _ _ zl).trans t1; have k2 := (c1 _ _ zl).trans t2; refine bodyPost_ret (v := .tuple #[.agg #[.int .i64 vk, .int .i64 vn, .string vs], .bool kb]) (by simp [results, Tryz.results35, go_sem, k0, k1, k2]) rfl ⟨by simp, b_set3 (b_trans HBE.out hbl) _ (by omega) _ _ _⟩)
set_option maxHeartbeats 1000000 in
theorem isBool_any (d : Nd) (A : Option Addr) (m c : Nat) (w : World) :
    Calls Tryz.prog 37 #[.agg #[.int .i64 d.op, .int .i64 d.k, .int .i64 d.n, .string d.s, .string d.nm, .slice A m c]] w fun e w' => e = .returned (.bool (decide (d.op = 1) && decide (d.k = 2))) ∧ Below w.heap.size w w' := by
  have hb := b_new w (.cells #[.int .i64 d.op, .int .i64 d.k, .int .i64 d.n, .string d.s, .string d.nm, .slice A m c] 26)
  have HB := Lib.hid hb
  clear hb
  by_cases h1 : d.op = 1
  · by_cases h2 : d.k = 2
    · have t1 : (d.op == 1) = true := by simp [h1]
      have t2 : (d.k == 2) = true := by simp [h2]
      obtain ⟨r, hr⟩ : ∃ r, (decide (d.op = 1) && decide (d.k = 2)) = r := ⟨_, rfl⟩
      have hr2 : true = r := by rw [← hr, h1, h2]; rfl
      rw [hr, ← hr2]
      clear hr hr2 h1 h2
      go_enter Tryz.func37, Tryz.ntmps37
      go_wp2_with fail
      go_ret
      exact ⟨by simp, HB.out⟩
    · have t1 : (d.op == 1) = true := by simp [h1]
      have t2 : (d.k == 2) = false := beq_eq_false_iff_ne.2 h2
      obtain ⟨r, hr⟩ : ∃ r, (decide (d.op = 1) && decide (d.k = 2)) = r := ⟨_, rfl⟩
      have hr2 : false = r := by rw [← hr, h1]; simp [h2]
      rw [hr, ← hr2]
      clear hr hr2 h1 h2
      go_enter Tryz.func37, Tryz.ntmps37
      go_wp2_with fail
      go_ret
      exact ⟨by simp, HB.out⟩
  · have t1 : (d.op == 1) = false := beq_eq_false_iff_ne.2 h1
    obtain ⟨r, hr⟩ : ∃ r, (decide (d.op = 1) && decide (d.k = 2)) = r := ⟨_, rfl⟩
    have hr2 : false = r := by rw [← hr]; simp [h1]
    rw [hr, ← hr2]
    clear hr hr2 h1
    go_enter Tryz.func37, Tryz.ntmps37
    go_wp2_with fail
    go_ret
    exact ⟨by simp, HB.out⟩
end Go.Proofs.YtehkebncdahmcaaGreatDoor.Fo
namespace Go.Proofs.YtehkebncdahmcaaGreatDoor.FoT
open Go.RowKit
open ValM LexM NumM ExM NmM EvM EvP FoM Kit ExL ExP ExV ExN NmC NmO Ev EvO EvF EvE Fo
set_option linter.unusedVariables false

/-- A box for a result, not yet written. -/
def EZ (w : World) (B : Nat) : Prop := w.heap[B]? = some (.cells #[.int .i64 0, .int .i64 0, .int .i64 0, .string ⟨#[]⟩, .string ⟨#[]⟩, .slice none 0 0] 26 (0, 0))
theorem EZ.cell {w : World} {B : Nat} (h : EZ w B) (o : Nat) : w.cell? ⟨B, o, none⟩ = (#[.int .i64 0, .int .i64 0, .int .i64 0, .string ⟨#[]⟩, .string ⟨#[]⟩, .slice none 0 0] : Array Value)[o]? := by unfold EZ at h; simp [World.cell?, h]
theorem EZ.frozen {w : World} {B : Nat} (h : EZ w B) (o : Nat) : w.frozen? ⟨B, o, none⟩ = false := by unfold EZ at h; simp [World.frozen?, h]
theorem EZ.lt {w : World} {B : Nat} (h : EZ w B) : B < w.heap.size := (Array.getElem?_eq_some_iff.1 h).1
theorem EZ.below {w w' : World} {B : Nat} (h : EZ w B) (hb : Below w.heap.size w w') : EZ w' B := (hb.block B h.lt).trans h
theorem EZ.new (w : World) : EZ (w.alloc (.cells #[.int .i64 0, .int .i64 0, .int .i64 0, .string ⟨#[]⟩, .string ⟨#[]⟩, .slice none 0 0] 26)) w.heap.size := World.alloc_heap_new w _
theorem box_frozen {w : World} {B : Nat} {d : Nd} {A : Option Addr} {m c : Nat} (h : Box w B d A m c) (o : Nat) : w.frozen? ⟨B, o, none⟩ = false := by unfold Box at h; simp [World.frozen?, h]
theorem box_cell {w : World} {B : Nat} {d : Nd} {A : Option Addr} {m c : Nat} (h : Box w B d A m c) (o : Nat) : w.cell? ⟨B, o, none⟩ = (#[.int .i64 d.op, .int .i64 d.k, .int .i64 d.n, .string d.s, .string d.nm, .slice A m c] : Array Value)[o]? := by unfold Box at h; simp [World.cell?, h]
theorem isP_d {P : Nat → Prop} {w : World} {x : Ex} {d : Nd} {A : Option Addr} {n : Nat} (h : IsP P w x d A n) : x.d = d := by
  cases x; rw [isP_mk] at h; exact h.1.symm

theorem known_size {v : Vl} (h : knV v = true) : v.s.size ≤ maxLen := by
  rcases ok_cases (known_cases h).1 with g | g | g | g | g
  · rw [g.2.2]; exact Nat.zero_le _
  · rw [g.2.2]; exact Nat.zero_le _
  · have := g.2.2.1; unfold maxLen; omega
  · rw [g.2.2]; exact Nat.zero_le _
  · rw [g.2.2.2]; exact Nat.zero_le _
set_option maxRecDepth 100000 in
set_option maxHeartbeats 1000000 in
theorem lit_pos (k n : Int) (s : ByteArray) (hk : knV ⟨k, n, s⟩ = true) (h2 : ¬ (k = 1 ∧ n < 0)) (w : World) :
    Calls Tryz.prog 36 #[.agg #[.int .i64 k, .int .i64 n, .string s]] w (Made (litE ⟨k, n, s⟩) w) := by
  rw [litE_pos h2]
  have hs : s.size ≤ maxLen := known_size hk
  have HS := Lib.hid hs
  have key : ∀ e W', e = Ending.returned (.agg #[.int .i64 1, .int .i64 k, .int .i64 n, .string s, .string ⟨#[]⟩, .slice none 0 0]) → Below w.heap.size w W' → Made (.mk (constN ⟨k, n, s⟩) []) w e W' := fun e W' he hb => by
    subst he
    exact ⟨constN ⟨k, n, s⟩, none, 0, 0, rfl, isP_leaf _ _ _ _ HS.out (Nat.zero_le _), hb⟩
  have HK := Lib.hid key
  clear hs hk key
  by_cases h1 : k = 1
  · have t1 : (k == 1) = true := by simp [h1]
    have t2 : ¬ n < 0 := fun h => h2 ⟨h1, h⟩
    clear h1 h2
    go_enter Tryz.func36, Tryz.ntmps36
    go_wp2_with fail
    refine bodyPost_ret (v := .agg #[.int .i64 1, .int .i64 k, .int .i64 n, .string s, .string ⟨#[]⟩, .slice none 0 0]) (by simp [results, Tryz.results36, go_sem]) rfl ?_
    refine HK.out _ _ rfl ?_
    exact b_more (b_new _ _) _
  · have t1 : (k == 1) = false := beq_eq_false_iff_ne.2 h1
    clear h1 h2
    go_enter Tryz.func36, Tryz.ntmps36
    go_wp2_with fail
    refine bodyPost_ret (v := .agg #[.int .i64 1, .int .i64 k, .int .i64 n, .string s, .string ⟨#[]⟩, .slice none 0 0]) (by simp [results, Tryz.results36, go_sem]) rfl ?_
    refine HK.out _ _ rfl ?_
    exact b_more (b_new _ _) _
set_option maxRecDepth 100000 in
set_option maxHeartbeats 1000000 in
theorem literal_any (v : Vl) (hk : knV v = true) (w : World) :
    Calls Tryz.prog 36 #[.agg #[.int .i64 v.k, .int .i64 v.n, .string v.s]] w (Made (litE v) w) := by
  obtain ⟨k, n, s⟩ := v
  by_cases h2 : k = 1 ∧ n < 0
  · obtain ⟨g1, g2, g3⟩ := known_neg hk h2
    have hl := fun W => lit_pos k (-n) s g1 (fun g => by omega) W
    rw [litE_pos (show ¬ ((⟨k, -n, s⟩ : Vl).k = 1 ∧ (⟨k, -n, s⟩ : Vl).n < 0) from fun g => by have := g.2; simp only at this; omega)] at hl
    rw [litE_neg h2]
    obtain ⟨rfl, h2⟩ := h2
    have hw : IntKind.i64.wrap (-n) = -n := IntWalk.i64_in _ (by unfold okN at g2; simp only [decide_eq_true_eq] at g2; omega)
    have HL := Lib.hid hl
    have hz1 := EZ.new (w.alloc (.cells #[.int .i64 1, .int .i64 (-n), .string s] 23))
    rw [World.size_alloc] at hz1
    have hb := b_more (b_new w (.cells #[.int .i64 1, .int .i64 (-n), .string s] 23)) (.cells #[.int .i64 0, .int .i64 0, .int .i64 0, .string ⟨#[]⟩, .string ⟨#[]⟩, .slice none 0 0] 26)
    obtain ⟨Y, hY⟩ : ∃ Y, ((w.alloc (.cells #[.int .i64 1, .int .i64 (-n), .string s] 23)).alloc (.cells #[.int .i64 0, .int .i64 0, .int .i64 0, .string ⟨#[]⟩, .string ⟨#[]⟩, .slice none 0 0] 26)) = Y := ⟨_, rfl⟩
    rw [hY] at hb hz1
    have HB := Lib.hid hb
    have HZ := Lib.hid hz1
    have HY := Lib.hid hY
    have HW := Lib.hid hw
    clear hk g1 g2 g3 hl hb hz1 hY
    go_enter Tryz.func36, Tryz.ntmps36
    go_wp2_with fail
    rw [HY.out]
    refine (HL.out _).mono ?_; rintro e w1 ⟨d, B, m, c, rfl, hi, hb1⟩
    have hz1 := HZ.out.below hb1
    have hb2 := b_trans HB.out hb1
    have hYs := hb1.size
    have c0 := hz1.cell
    have f0 := hz1.frozen
    have zl := hz1.lt
    have hys : w.heap.size + 1 < Y.heap.size := HZ.out.lt
    have hfin : ∀ v0 v1 v2 v3 v4 v5, IsP (fun b => w.heap.size ≤ b) ((((((((w1.setCell ⟨w.heap.size + 1, 0, none⟩ v0).setCell ⟨w.heap.size + 1, 1, none⟩ v1).setCell ⟨w.heap.size + 1, 2, none⟩ v2).setCell ⟨w.heap.size + 1, 3, none⟩ v3).setCell ⟨w.heap.size + 1, 4, none⟩ v4).setCell ⟨w.heap.size + 1, 5, none⟩ v5)).alloc (.cells #[.int .i64 d.op, .int .i64 d.k, .int .i64 d.n, .string d.s, .string d.nm, .slice B m c] 26)) (.mk negN [.mk (constN ⟨1, -n, s⟩) []]) negN (some ⟨w1.heap.size, 0, none⟩) 1 ∧ Below w.heap.size w ((((((((w1.setCell ⟨w.heap.size + 1, 0, none⟩ v0).setCell ⟨w.heap.size + 1, 1, none⟩ v1).setCell ⟨w.heap.size + 1, 2, none⟩ v2).setCell ⟨w.heap.size + 1, 3, none⟩ v3).setCell ⟨w.heap.size + 1, 4, none⟩ v4).setCell ⟨w.heap.size + 1, 5, none⟩ v5)).alloc (.cells #[.int .i64 d.op, .int .i64 d.k, .int .i64 d.n, .string d.s, .string d.nm, .slice B m c] 26)) := fun v0 v1 v2 v3 v4 v5 => by
      have hk : IsP (fun b => w.heap.size ≤ b) ((((((w1.setCell ⟨w.heap.size + 1, 0, none⟩ v0).setCell ⟨w.heap.size + 1, 1, none⟩ v1).setCell ⟨w.heap.size + 1, 2, none⟩ v2).setCell ⟨w.heap.size + 1, 3, none⟩ v3).setCell ⟨w.heap.size + 1, 4, none⟩ v4).setCell ⟨w.heap.size + 1, 5, none⟩ v5) (.mk (constN ⟨1, -n, s⟩) []) d B m :=
        IsP.keep (fun b hb hl => set6_block (i := 0) (by omega) _ _ _ _ _ _) (fun b hb hl => by omega) _ _ _ _ hi
      have hbk := set6_below (i := 0) (g := w.heap.size + 1) hb2 (by omega) v0 v1 v2 v3 v4 v5
      have hsz : ((((((w1.setCell ⟨w.heap.size + 1, 0, none⟩ v0).setCell ⟨w.heap.size + 1, 1, none⟩ v1).setCell ⟨w.heap.size + 1, 2, none⟩ v2).setCell ⟨w.heap.size + 1, 3, none⟩ v3).setCell ⟨w.heap.size + 1, 4, none⟩ v4).setCell ⟨w.heap.size + 1, 5, none⟩ v5).heap.size = w1.heap.size := set6_size (i := 0) v0 v1 v2 v3 v4 v5
      generalize ((((((w1.setCell ⟨w.heap.size + 1, 0, none⟩ v0).setCell ⟨w.heap.size + 1, 1, none⟩ v1).setCell ⟨w.heap.size + 1, 2, none⟩ v2).setCell ⟨w.heap.size + 1, 3, none⟩ v3).setCell ⟨w.heap.size + 1, 4, none⟩ v4).setCell ⟨w.heap.size + 1, 5, none⟩ v5) = V at hk hsz hbk
      refine ⟨?_, b_more hbk _⟩
      have hn := Box.new V d B m c
      rw [hsz] at hn
      refine isP_row (es := [⟨_, d, B, m, c⟩]) (fun j hj => ?_) (by omega) (by simp [maxLen]) (Nat.zero_le _) (Nat.zero_le _) (fun e he => ?_)
      · rw [box_cell hn j]; simp [elC, El.cells]
      · simp at he; subst he
        exact hk.below (b_new V _)
    have HFin := Lib.hid hfin
    clear hi hb1 hz1 hb2 hfin
    go_wp2_with fail
    refine bodyPost_ret (v := .agg #[.int .i64 3, .int .i64 0, .int .i64 0, .string ⟨#[]⟩, .string ⟨#[]⟩, .slice (some ⟨w1.heap.size, 0, none⟩) 1 1]) (by simp [results, Tryz.results36, go_sem, c0, zl]) rfl ?_
    exact ⟨negN, some ⟨w1.heap.size, 0, none⟩, 1, 1, rfl, (HFin.out _ _ _ _ _ _).1, (HFin.out _ _ _ _ _ _).2⟩
  · exact lit_pos k n s hk h2 w
end Go.Proofs.YtehkebncdahmcaaGreatDoor.FoT
namespace Go.Proofs.YtehkebncdahmcaaGreatDoor.FoS
open Go.RowKit
open ValM LexM NumM ExM NmM TyM EvM EvP FoM Kit ExL ExP ExV ExN NmC NmO Ev EvO EvF EvE Fo FoT
set_option linter.unusedVariables false

/-- Of three formulas in a row the one that the first one chooses. -/
def chosenEl (e0 e1 e2 : El) : El := if e0.d.n = 1 then e1 else e2
set_option maxRecDepth 100000 in
set_option maxHeartbeats 1000000 in
theorem chosen_any (e0 e1 e2 : El) (g c : Nat) (w : World) (hc : ∀ j, j < 18 → w.cell? ⟨g, j, none⟩ = (elC [e0, e1, e2])[j]?) :
    Calls Tryz.prog 38 #[.slice (some ⟨g, 0, none⟩) 3 c] w fun e w' => e = .returned (.agg #[.int .i64 (chosenEl e0 e1 e2).d.op, .int .i64 (chosenEl e0 e1 e2).d.k, .int .i64 (chosenEl e0 e1 e2).d.n, .string (chosenEl e0 e1 e2).d.s, .string (chosenEl e0 e1 e2).d.nm, .slice (chosenEl e0 e1 e2).A (chosenEl e0 e1 e2).n (chosenEl e0 e1 e2).c]) ∧ Below w.heap.size w w' := by
  have hg : g < w.heap.size := cell_lt' (hc 0 (by decide))
  have q2 : w.cell? ⟨g, 2, none⟩ = some (.int .i64 e0.d.n) := hc 2 (by decide)
  have q6 : w.cell? ⟨g, 6, none⟩ = some (.int .i64 e1.d.op) := hc 6 (by decide)
  have q7 : w.cell? ⟨g, 7, none⟩ = some (.int .i64 e1.d.k) := hc 7 (by decide)
  have q8 : w.cell? ⟨g, 8, none⟩ = some (.int .i64 e1.d.n) := hc 8 (by decide)
  have q9 : w.cell? ⟨g, 9, none⟩ = some (.string e1.d.s) := hc 9 (by decide)
  have q10 : w.cell? ⟨g, 10, none⟩ = some (.string e1.d.nm) := hc 10 (by decide)
  have q11 : w.cell? ⟨g, 11, none⟩ = some (.slice e1.A e1.n e1.c) := hc 11 (by decide)
  have q12 : w.cell? ⟨g, 12, none⟩ = some (.int .i64 e2.d.op) := hc 12 (by decide)
  have q13 : w.cell? ⟨g, 13, none⟩ = some (.int .i64 e2.d.k) := hc 13 (by decide)
  have q14 : w.cell? ⟨g, 14, none⟩ = some (.int .i64 e2.d.n) := hc 14 (by decide)
  have q15 : w.cell? ⟨g, 15, none⟩ = some (.string e2.d.s) := hc 15 (by decide)
  have q16 : w.cell? ⟨g, 16, none⟩ = some (.string e2.d.nm) := hc 16 (by decide)
  have q17 : w.cell? ⟨g, 17, none⟩ = some (.slice e2.A e2.n e2.c) := hc 17 (by decide)
  clear hc
  by_cases h1 : e0.d.n = 1
  · have t1 : (e0.d.n == 1) = true := by simp [h1]
    have hE : chosenEl e0 e1 e2 = e1 := by unfold chosenEl; rw [if_pos h1]
    rw [hE]
    clear hE h1
    go_enter Tryz.func38, Tryz.ntmps38
    go_wp2_with fail
    refine bodyPost_ret (v := .agg #[.int .i64 e1.d.op, .int .i64 e1.d.k, .int .i64 e1.d.n, .string e1.d.s, .string e1.d.nm, .slice e1.A e1.n e1.c]) (by simp [results, Tryz.results38, go_sem]) rfl ⟨rfl, b_new _ _⟩
  · have t1 : (e0.d.n == 1) = false := beq_eq_false_iff_ne.2 h1
    have hE : chosenEl e0 e1 e2 = e2 := by unfold chosenEl; rw [if_neg h1]
    rw [hE]
    clear hE h1
    go_enter Tryz.func38, Tryz.ntmps38
    go_wp2_with fail
    refine bodyPost_ret (v := .agg #[.int .i64 e2.d.op, .int .i64 e2.d.k, .int .i64 e2.d.n, .string e2.d.s, .string e2.d.nm, .slice e2.A e2.n e2.c]) (by simp [results, Tryz.results38, go_sem]) rfl ⟨rfl, b_new _ _⟩

/-- A row of formulas that are made one behind the other. -/
structure SInv (W0 : World) (f : Ex → Ex) (l : List Ex) (k : Nat) (es : List El) (v : Value) (wr : World) : Prop where
  le : k ≤ l.length
  len : es.length = k
  is : es.map El.x = (l.take k).map f
  own : wr.ownsRow W0.heap.size 26 6 v es.length (elC es)
  all : ∀ e ∈ es, IsP (fun b => W0.heap.size ≤ b ∧ some b ≠ v.ownBlock) wr e.x e.d e.A e.n
  below : Below W0.heap.size W0 wr
theorem SInv.step {W0 wr w5 w6 : World} {f : Ex → Ex} {l : List Ex} {k : Nat} {es : List El} {v : Value} {o tmp : Obj} {d : Nd} {B : Option Addr} {m c gg cap : Nat} (h : SInv W0 f l k es v wr) (hk : k < l.length)
    (hi : IsP (fun b => (wr.alloc o).heap.size ≤ b) w5 (f l[k]) d B m) (hb : Below (wr.alloc o).heap.size (wr.alloc o) w5)
    (hown6 : w6.ownsRow W0.heap.size 26 6 (.slice (some ⟨gg, 0, none⟩) (es.length + 1) cap) (es.length + 1) (elC es ++ [.int .i64 d.op, .int .i64 d.k, .int .i64 d.n, .string d.s, .string d.nm, .slice B m c]))
    (hgrow6 : (w5.alloc tmp).grownBy w6 v.ownBlock) (hat6 : v.ownBlock = some gg ∨ gg = w5.heap.size + 1) :
    SInv W0 f l (k + 1) (es ++ [⟨f l[k], d, B, m, c⟩]) (.slice (some ⟨gg, 0, none⟩) (es.length + 1) cap) w6 := by
  have hs0 := h.below.size
  have hs5 : wr.heap.size + 1 ≤ w5.heap.size := by have := hb.size; simpa using this
  have hov : ∀ g, v.ownBlock = some g → W0.heap.size ≤ g ∧ g < wr.heap.size := fun g hg => h.own.lt g hg
  have hge : Value.ownBlock (.slice (some ⟨gg, 0, none⟩) (es.length + 1) cap) = some gg := rfl
  have f5 : ∀ b, b < w5.heap.size → some b ≠ v.ownBlock → w6.heap[b]? = w5.heap[b]? := fun b hl hne => Gen.app_keep hgrow6 hl hne
  have f0 : ∀ b, b < wr.heap.size → some b ≠ v.ownBlock → w6.heap[b]? = wr.heap[b]? := fun b hl hne =>
    (f5 b (by omega) hne).trans ((hb.block b (by simp; omega)).trans ((b_new wr o).block b hl))
  refine ⟨hk, by simp [h.len], ?_, by rw [elC_snoc, List.length_append]; exact hown6, ?_, ?_⟩
  · rw [take_at l k hk, List.map_append, List.map_append, h.is]; rfl
  · intro e he
    rcases List.mem_append.1 he with he | he
    · refine IsP.keep (fun b hb hl => f0 b hl hb.2) (fun b hb hl => ⟨hb.1, ?_⟩) _ _ _ _ (h.all e he)
      rw [hge]; intro e; injection e with e
      rcases hat6 with g | g
      · exact hb.2 (by rw [g, e])
      · omega
    · simp at he; subst he
      refine IsP.keep (fun b hb hl => ?_) (fun b hb hl => ⟨?_, ?_⟩) _ _ _ _ hi
      · have hb' : (wr.alloc o).heap.size ≤ b := hb
        rw [World.size_alloc] at hb'
        exact f5 b hl (fun e => by have := (hov b e.symm).2; omega)
      · have hb' : (wr.alloc o).heap.size ≤ b := hb
        rw [World.size_alloc] at hb'; omega
      · have hb' : (wr.alloc o).heap.size ≤ b := hb
        rw [World.size_alloc] at hb'
        rw [hge]; intro e; injection e with e
        rcases hat6 with g | g
        · have := (hov gg g).2; omega
        · omega
  · refine ⟨?_, ?_, ?_, ?_, fun b hb2 => ?_⟩
    · exact hgrow6.os.trans (hb.os.trans h.below.os)
    · exact hgrow6.tape.trans (hb.tape.trans h.below.tape)
    · exact hgrow6.output.trans (hb.output.trans h.below.output)
    · have h2 := hgrow6.size
      simp at h2; omega
    · exact (f0 b (by omega) (fun e => by have := (hov b e.symm).1; omega)).trans (h.below.block b hb2)
theorem SInv.nil {W0 : World} (f : Ex → Ex) (l : List Ex) : SInv W0 f l 0 [] (.slice none 0 0) W0 := ⟨Nat.zero_le _, rfl, rfl, World.ownsRow_nil _ _ _ _, fun e he => absurd he (by simp), Below.refl _ _⟩
/-- The row is whole. -/
theorem SInv.done {W0 wr : World} {f : Ex → Ex} {l : List Ex} {es : List El} {v : Value} (h : SInv W0 f l l.length es v wr) (hl : l.length ≤ 1000000) :
    ∃ A c, v = .slice A l.length c ∧ es.map El.x = l.map f ∧ (0 < l.length → ∃ g, A = some ⟨g, 0, none⟩ ∧ W0.heap.size ≤ g ∧ ∀ j, j < es.length * 6 → wr.cell? ⟨g, j, none⟩ = (elC es)[j]?) ∧ (∀ d : Nd, d.s.size ≤ maxLen → d.nm.size ≤ maxLen → IsP (fun b => W0.heap.size ≤ b) wr (.mk d (l.map f)) d A l.length) := by
  have hm : es.map El.x = l.map f := by rw [h.is, List.take_length]
  by_cases h0 : l.length = 0
  · have hl0 : l = [] := List.eq_nil_of_length_eq_zero h0
    have he0 : es.length = 0 := h.len.trans h0
    obtain ⟨A, c, hv⟩ := own_slice h.own
    refine ⟨A, c, by rw [hv, he0, h0], hm, fun h => by omega, fun d h1 h2 => ?_⟩
    subst hl0
    exact isP_leaf _ _ d A h1 h2
  · have hpos : 0 < es.length := by rw [h.len]; omega
    obtain ⟨g, cap, hv, hg1, hg2, hg3, hg4, hc⟩ := GenL.own_form h.own hpos
    refine ⟨some ⟨g, 0, none⟩, cap, by rw [hv, h.len], hm, fun _ => ⟨g, rfl, hg1, hc⟩, fun d h1 h2 => ?_⟩
    have := isP_row (P := fun b => W0.heap.size ≤ b) (d := d) hc hg1 (by rw [h.len]; unfold maxLen; omega) h1 h2 (fun e he => (h.all e he).imp fun b hb _ => hb.1)
    rw [hm, h.len] at this
    exact this
def Good (x : Ex) : Prop := x.nodes ≤ 60 ∧ x.depth ≤ 12 ∧ x.okN
theorem Good.check {x : Ex} (h : Good x) : x.checkE = 0 := by rw [checkE_ok h.1 h.2.1]; exact h.2.2
theorem Good.arg {d : Nd} {l : List Ex} (h : Good (.mk d l)) {x : Ex} (hx : x ∈ l) : Good x := by
  obtain ⟨h1, h2, h3⟩ := h
  rw [nodes_mk] at h1
  rw [depth_mk] at h2
  have g1 := nodes_mem hx
  have g2 := depth_mem hx
  exact ⟨by omega, by omega, ((okN_mk d l).1 h3).2 x hx⟩
theorem chosen_x (e0 e1 e2 : El) (h : e0.x.d = e0.d) : chosenE ([e0, e1, e2].map El.x) = (chosenEl e0 e1 e2).x := by
  unfold chosenE chosenEl
  show (if e0.x.d.n = 1 then e1.x else e2.x) = _
  rw [h]
  split <;> rfl
theorem made_end {w W : World} {y : Ex} {d : Nd} {A : Option Addr} {n : Nat} (hb : Below w.heap.size w W) (his : IsP (fun b => w.heap.size + 2 ≤ b) W y d A n) (v0 v1 v2 v3 v4 v5 : Value) :
    IsP (fun b => w.heap.size ≤ b) ((((((W.setCell ⟨w.heap.size + 1, 0, none⟩ v0).setCell ⟨w.heap.size + 1, 1, none⟩ v1).setCell ⟨w.heap.size + 1, 2, none⟩ v2).setCell ⟨w.heap.size + 1, 3, none⟩ v3).setCell ⟨w.heap.size + 1, 4, none⟩ v4).setCell ⟨w.heap.size + 1, 5, none⟩ v5) y d A n ∧ Below w.heap.size w ((((((W.setCell ⟨w.heap.size + 1, 0, none⟩ v0).setCell ⟨w.heap.size + 1, 1, none⟩ v1).setCell ⟨w.heap.size + 1, 2, none⟩ v2).setCell ⟨w.heap.size + 1, 3, none⟩ v3).setCell ⟨w.heap.size + 1, 4, none⟩ v4).setCell ⟨w.heap.size + 1, 5, none⟩ v5) :=
  ⟨IsP.keep (fun b hb2 hl => set6_block (i := 0) (by omega) _ _ _ _ _ _) (fun b hb2 hl => by omega) _ _ _ _ his, set6_below (i := 0) hb (by omega) _ _ _ _ _ _⟩
theorem made_end2 {w W : World} {y : Ex} {d : Nd} {A : Option Addr} {n : Nat} (hb : Below w.heap.size w W) (his : IsP (fun b => w.heap.size + 2 ≤ b) W y d A n) (v v0 v1 v2 v3 v4 v5 : Value) :
    IsP (fun b => w.heap.size ≤ b) (((((((W.setCell ⟨w.heap.size, 5, none⟩ v).setCell ⟨w.heap.size + 1, 0, none⟩ v0).setCell ⟨w.heap.size + 1, 1, none⟩ v1).setCell ⟨w.heap.size + 1, 2, none⟩ v2).setCell ⟨w.heap.size + 1, 3, none⟩ v3).setCell ⟨w.heap.size + 1, 4, none⟩ v4).setCell ⟨w.heap.size + 1, 5, none⟩ v5) y d A n ∧ Below w.heap.size w (((((((W.setCell ⟨w.heap.size, 5, none⟩ v).setCell ⟨w.heap.size + 1, 0, none⟩ v0).setCell ⟨w.heap.size + 1, 1, none⟩ v1).setCell ⟨w.heap.size + 1, 2, none⟩ v2).setCell ⟨w.heap.size + 1, 3, none⟩ v3).setCell ⟨w.heap.size + 1, 4, none⟩ v4).setCell ⟨w.heap.size + 1, 5, none⟩ v5) :=
  made_end (hb.setCell (p := ⟨w.heap.size, 5, none⟩) (Nat.le_refl _) v) (IsP.keep (fun b hb2 hl => Below.heap_setCell W ⟨w.heap.size, 5, none⟩ v b (by show b ≠ w.heap.size; omega)) (fun b hb2 hl => hb2) _ _ _ _ his) v0 v1 v2 v3 v4 v5
set_option maxRecDepth 100000 in
set_option maxHeartbeats 4000000 in
theorem simplified_any : ∀ (x : Ex) (d : Nd) (A : Option Addr) (n c : Nat) (w : World), Good x → Is w x d A n → Tab w →
    Calls Tryz.prog 20 #[.agg #[.int .i64 d.op, .int .i64 d.k, .int .i64 d.n, .string d.s, .string d.nm, .slice A n c]] w (Made (Ex.fold x) w) := by
  obtain ⟨i0, hi, hz0, hz1, hz2⟩ := info_parts infoEx
  refine Ex.ind fun d l ih => ?_
  intro d' A n c w hgd his hT
  have hcn := fun W (hb : Below w.heap.size w W) => constant_any (.mk d l) d' A n c W (his.below hb) (hT.below hb) hgd.check
  rw [is_mk] at his
  obtain ⟨rfl, rfl, ⟨hm, hs1, hs2⟩, his⟩ := his
  have hlen : l.length ≤ 60 := by have := hgd.1; rw [nodes_mk] at this; have := len_nodesL l; omega
  have hrow : ExS.Row w A l := his
  have hbx := (Box.new w d' A l.length c).below (b_new _ (.cells #[.int .i64 0, .int .i64 0, .int .i64 0, .string ⟨#[]⟩, .string ⟨#[]⟩, .slice none 0 0] 26))
  have hz := EZ.new (w.alloc (.cells #[.int .i64 d'.op, .int .i64 d'.k, .int .i64 d'.n, .string d'.s, .string d'.nm, .slice A l.length c] 26))
  rw [World.size_alloc] at hz
  have hb0 := b_more (b_new w (.cells #[.int .i64 d'.op, .int .i64 d'.k, .int .i64 d'.n, .string d'.s, .string d'.nm, .slice A l.length c] 26)) (.cells #[.int .i64 0, .int .i64 0, .int .i64 0, .string ⟨#[]⟩, .string ⟨#[]⟩, .slice none 0 0] 26)
  obtain ⟨cv, hcv⟩ : ∃ v, conVl (.mk d' l) = v := ⟨_, rfl⟩
  obtain ⟨q, hq⟩ : ∃ q, conB (.mk d' l) = q := ⟨_, rfl⟩
  rw [hcv, hq] at hcn
  have hcon : q = true → knV cv = true ∧ Ex.fold (.mk d' l) = litE cv := fun h => by
    rw [h] at hq
    obtain ⟨g1, g2⟩ := conB_iff.1 hq
    have e : cv = Ex.ev [] (.mk d' l) := by rw [← hcv]; unfold conVl; rw [if_pos (closed_nil.2 g1)]
    rw [e]
    exact ⟨g2, fold_con hq⟩
  obtain ⟨vk, vn, vs⟩ := cv
  have HCn := Lib.hid hcn
  have HX := Lib.hid hbx
  have HZ := Lib.hid hz
  have HB := Lib.hid hb0
  have HT := Lib.hid hT
  have HRow := Lib.hid hrow
  have HI := Lib.hid ih
  have HG := Lib.hid hgd
  have HCon := Lib.hid hcon
  have HQ := Lib.hid hq
  have HS := Lib.hid (And.intro hs1 hs2)
  clear hcn hbx hz hb0 hT hrow ih hgd hcon hq hs1 hs2 his hcv hm
  go_enter Tryz.func20, Tryz.ntmps20
  go_wp2_with fail
  refine (HCn.out _ HB.out).mono ?_; rintro e w1 ⟨rfl, hb1⟩
  have hx1 := (HX.out.below hb1).below (b_new w1 (.cells #[.int .i64 vk, .int .i64 vn, .string vs] 23))
  have hz1 := (HZ.out.below hb1).below (b_new w1 (.cells #[.int .i64 vk, .int .i64 vn, .string vs] 23))
  have hv1 := BV.new w1 vk vn vs
  have hbY := b_more (b_trans HB.out hb1) (.cells #[.int .i64 vk, .int .i64 vn, .string vs] 23)
  obtain ⟨Y, hY⟩ : ∃ Y, w1.alloc (.cells #[.int .i64 vk, .int .i64 vn, .string vs] 23) = Y := ⟨_, rfl⟩
  rw [hY] at hx1 hz1 hv1 hbY
  have HX1 := Lib.hid hx1
  have HZ1 := Lib.hid hz1
  have HBY := Lib.hid hbY
  have HY := Lib.hid hY
  have hzl := hz1.lt
  cases q
  · -- nothing is known
    clear hv1 hx1 hz1 hbY hY HCon hb1
    obtain ⟨b0, b1, b2, b3, b4, b5⟩ := HX1.out.cells
    have hlA : w.heap.size < Y.heap.size := by omega
    have HQ2 := HQ.out
    have HI0 := Lib.hid (SInv.nil (W0 := Y) Ex.fold l)
    have hTY := Lib.hid (HT.out.below HBY.out)
    go_upto_region 5 with fail
    rw [HY.out]
    go_wp2_with fail
    go_loopw [5, 7, 19] (fun v5 _ v19 wr => ∃ (k : Nat) (es : List El) (v : Value), v = v5 ∧ v19 = .int .i64 k ∧ SInv Y Ex.fold l k es v wr) (fun _ _ v19 _ => l.length - (intOf v19).toNat)
    case atStart => exact ⟨0, [], _, rfl, rfl, HI0.out⟩
    case round =>
      obtain ⟨k, es, v, rfl, rfl, hV⟩ := hrel
      have hk := hV.le
      by_cases hlt : k < l.length
      · obtain ⟨a, d2, B, m, c2, rfl, hat, hi2⟩ := HRow.out k hlt
        have hbr := b_trans HBY.out hV.below
        obtain ⟨h0, h1, h2, h3, h4, h5⟩ := hat.below hbr
        have hc := HI.out l[k] (List.getElem_mem hlt) d2 B m c2 (wr.alloc (.cells #[.int .i64 d2.op, .int .i64 d2.k, .int .i64 d2.n, .string d2.s, .string d2.nm, .slice B m c2] 26)) (HG.out.arg (List.getElem_mem hlt)) ((hi2.below hbr).alloc _) ((HT.out.below hbr).alloc _)
        have hel : es.length = k := hV.len
        have HC := Lib.hid hc
        have HV := Lib.hid hV
        have HEl := Lib.hid hel
        clear hc hi2 hat hV hbr hel
        go_wp2_with fail
        refine HC.out.mono ?_; rintro e w5 ⟨d5, B5, m5, c5, rfl, hi5, hb5⟩
        have own5 : w5.ownsRow Y.heap.size 26 6 v es.length (elC es) := by
          have hb3 : Below wr.heap.size wr w5 := b_then hb5
          exact HV.out.own.kept (row := none) ⟨hb3.os, hb3.tape, hb3.output, hb3.size, fun k hk _ => hb3.block k hk⟩ (by by_cases h : v.ownBlock = none; exact .inl h; exact .inr h)
        have hz6 : Y.heap.size ≤ (w5.alloc (.cells #[.int .i64 d5.op, .int .i64 d5.k, .int .i64 d5.n, .string d5.s, .string d5.nm, .slice B5 m5 c5] 26)).heap.size := by
          have g1 := hb5.size
          have g2 := HV.out.below.size
          simp at g1 ⊢; omega
        have hel := HEl.out
        have H5 := Lib.hid (And.intro hi5 hb5)
        clear hi5 hb5 h0 h1 h2 h3 h4 h5
        go_wp2_with (at_builtin; refine wpList_append_lies _ rfl _ _ 24 rfl Y.heap.size 26 i0 _ 6 80 Tryz.underlying24 hi hz0 hz1 hz2 rfl (by omega) v es.length (elC es) rfl (own5.alloc _) ⟨w5.heap.size, 0, none⟩ 1 1 [.int .i64 d5.op, .int .i64 d5.k, .int .i64 d5.n, .string d5.s, .string d5.nm, .slice B5 m5 c5] rfl rfl (World.news_of_block (cs := #[.int .i64 d5.op, .int .i64 d5.k, .int .i64 d5.n, .string d5.s, .string d5.nm, .slice B5 m5 c5]) (t := 26) (fr := (0, 0)) (heap_alloc_new w5 _)) (by simp [Value.oneCell']) (by omega) (by unfold maxLen; omega) (by omega) hz6 (w5.heap.size + 1) (by simp) ?_; intro gg cap w6 hown6 hgrow6 hat6 hlt6)
        have hN := HV.out.step (m := m5) (c := c5) hlt H5.out.1 H5.out.2 hown6 hgrow6 hat6
        rw [HEl.out] at hN
        have HN := Lib.hid hN
        clear hN hown6 hgrow6 hat6 hlt6 own5
        go_wp2_with fail
        go_roundw
        case rel => exact ⟨k + 1, _, _, rfl, by go_num, HN.out⟩
        case measure => simp [intOf]; omega
      · have hkl : k = l.length := by omega
        subst hkl
        obtain ⟨A1, c1, rfl, hmap, hcl, hisP⟩ := hV.done (by omega)
        have hYs : w.heap.size + 2 ≤ Y.heap.size := by omega
        have hbr := b_trans HBY.out hV.below
        have hxr := HX1.out.below hV.below
        have hzr := HZ1.out.below hV.below
        obtain ⟨p0, p1, p2, p3, p4, p5⟩ := hxr.cells
        have hres := (hisP d' HS.out.1 HS.out.2).imp (Q := fun b => w.heap.size + 2 ≤ b) fun b hb _ => by omega
        have HRes := Lib.hid hres
        have HBR := Lib.hid hbr
        have HXR := Lib.hid hxr
        have HZR := Lib.hid hzr
        by_cases hop : d'.op = 17
        · have t1 : (d'.op == 17) = true := by simp [hop]
          have h3 : l.length = 3 := by rw [(okN_op HG.out.2.2).2.2]; exact (arity_cases d'.op).1 hop
          obtain ⟨g, rfl, hgY, hq⟩ := hcl (by omega)
          have he3 : es.length = 3 := hV.len.trans h3
          obtain ⟨e0, e1, e2, rfl⟩ := EvP.len3 he3
          have q0 : wr.cell? ⟨g, 0, none⟩ = some (.int .i64 e0.d.op) := hq 0 (by rw [he3]; decide)
          have q1 : wr.cell? ⟨g, 1, none⟩ = some (.int .i64 e0.d.k) := hq 1 (by rw [he3]; decide)
          have q2 : wr.cell? ⟨g, 2, none⟩ = some (.int .i64 e0.d.n) := hq 2 (by rw [he3]; decide)
          have q3 : wr.cell? ⟨g, 3, none⟩ = some (.string e0.d.s) := hq 3 (by rw [he3]; decide)
          have q4 : wr.cell? ⟨g, 4, none⟩ = some (.string e0.d.nm) := hq 4 (by rw [he3]; decide)
          have q5 : wr.cell? ⟨g, 5, none⟩ = some (.slice e0.A e0.n e0.c) := hq 5 (by rw [he3]; decide)
          have gl : g < wr.heap.size := cell_lt' q0
          have hd0 : e0.x.d = e0.d := isP_d (hV.all e0 (by simp))
          have hgd : ((l.map Ex.fold).getD 0 zeroE) = e0.x := by rw [← hmap]; rfl
          have hbb : isBoolE ((l.map Ex.fold).getD 0 zeroE) = (decide (e0.d.op = 1) && decide (e0.d.k = 2)) := by rw [hgd]; unfold isBoolE; rw [hd0]
          obtain ⟨bb, hbe⟩ : ∃ b, (decide (e0.d.op = 1) && decide (e0.d.k = 2)) = b := ⟨_, rfl⟩
          have hib := fun W => isBool_any e0.d e0.A e0.n e0.c W
          rw [hbe] at hib hbb
          have hch := fun W (hb : Below wr.heap.size wr W) => chosen_any e0 e1 e2 g c1 W (fun j hj => (hb.cell (p := ⟨g, j, none⟩) gl).trans (hq j (by rw [he3]; exact hj)))
          have hpick : bb = true → Ex.fold (.mk d' l) = (chosenEl e0 e1 e2).x ∧ IsP (fun b => w.heap.size + 2 ≤ b) wr (chosenEl e0 e1 e2).x (chosenEl e0 e1 e2).d (chosenEl e0 e1 e2).A (chosenEl e0 e1 e2).n := fun hb => by
            refine ⟨?_, ?_⟩
            · rw [fold_if (by rw [HQ.out]; decide) ⟨hop, hbb.trans hb⟩, ← hmap]
              exact chosen_x e0 e1 e2 hd0
            · have hmem : chosenEl e0 e1 e2 ∈ [e0, e1, e2] := by unfold chosenEl; split <;> simp
              exact (hV.all _ hmem).imp fun b hb _ => by have := hb.1; omega
          have hnode : bb = false → Ex.fold (.mk d' l) = .mk d' (l.map Ex.fold) := fun hb => fold_node (by rw [HQ.out]; decide) (fun h => by rw [hbb, hb] at h; exact absurd h.2 (by decide))
          have HIb := Lib.hid hib
          have HCh := Lib.hid hch
          have HPick := Lib.hid hpick
          have HNode := Lib.hid hnode
          rw [h3]
          clear hib hch hpick hnode hbb hgd hbe hq hcl hisP hV hmap hres hbr hxr hzr he3 HI0 hop
          go_wp2_with fail
          refine (HIb.out _).mono ?_; rintro e w2 ⟨rfl, hb2⟩
          have hz2 := HZR.out.below hb2
          have hx2 := HXR.out.below hb2
          have c0 := hz2.cell
          have f0 := hz2.frozen
          have zl := hz2.lt
          cases bb
          · have hr2 := HRes.out.below hb2
            have hbw2 := b_trans HBR.out hb2
            rw [h3] at hr2
            have hfe := HNode.out rfl
            have HE := Lib.hid (made_end2 hbw2 hr2)
            have HFE := Lib.hid hfe
            have c6 := box_cell hx2
            have f6 := box_frozen hx2
            have xl := hx2.lt
            clear p0 p1 p2 p3 p4 p5 q0 q1 q2 q3 q4 q5 hb2 hz2 hx2 hr2 hbw2 hfe HPick HCh HNode
            go_wp2_with fail
            refine bodyPost_ret (v := .agg #[.int .i64 d'.op, .int .i64 d'.k, .int .i64 d'.n, .string d'.s, .string d'.nm, .slice (some ⟨g, 0, none⟩) 3 c1]) (by simp [results, Tryz.results20, go_sem, c0]) rfl ?_
            rw [HFE.out]
            exact ⟨d', some ⟨g, 0, none⟩, 3, c1, rfl, (HE.out _ _ _ _ _ _ _).1, (HE.out _ _ _ _ _ _ _).2⟩
          · obtain ⟨hfe, hpi⟩ := HPick.out rfl
            have hc := HCh.out w2 hb2
            obtain ⟨ec, hec⟩ : ∃ e, chosenEl e0 e1 e2 = e := ⟨_, rfl⟩
            rw [hec] at hfe hpi hc
            have hpi2 := hpi.below hb2
            have hbw2 := b_trans HBR.out hb2
            have HC := Lib.hid hc
            have HPi := Lib.hid hpi2
            have HBW2 := Lib.hid hbw2
            have HFE := Lib.hid hfe
            have HZ2 := Lib.hid hz2
            clear c0 f0 zl p0 p1 p2 p3 p4 p5 q0 q1 q2 q3 q4 q5 hb2 hz2 hx2 hpi hpi2 hfe hbw2 hc hec HPick HCh HNode
            go_wp2_with fail
            refine HC.out.mono ?_; rintro e w3 ⟨rfl, hb3⟩
            have hz3 := HZ2.out.below hb3
            have c0 := hz3.cell
            have f0 := hz3.frozen
            have zl := hz3.lt
            have HE := Lib.hid (made_end (b_trans HBW2.out hb3) (HPi.out.below hb3))
            clear hz3 hb3
            go_wp2_with fail
            refine bodyPost_ret (v := .agg #[.int .i64 ec.d.op, .int .i64 ec.d.k, .int .i64 ec.d.n, .string ec.d.s, .string ec.d.nm, .slice ec.A ec.n ec.c]) (by simp [results, Tryz.results20, go_sem, c0]) rfl ?_
            rw [HFE.out]
            exact ⟨ec.d, ec.A, ec.n, ec.c, rfl, (HE.out _ _ _ _ _ _).1, (HE.out _ _ _ _ _ _).2⟩
        · have t1 : (d'.op == 17) = false := beq_eq_false_iff_ne.2 hop
          have hfe : Ex.fold (.mk d' l) = .mk d' (l.map Ex.fold) := fold_node (by rw [HQ.out]; decide) (fun h => hop h.1)
          have HFE := Lib.hid hfe
          have HE := Lib.hid (made_end2 hbr hres)
          have c0 := hzr.cell
          have f0 := hzr.frozen
          have zl := hzr.lt
          have c6 := box_cell hxr
          have f6 := box_frozen hxr
          have xl := hxr.lt
          clear hcl hisP hV hmap hres hbr hxr hzr HI0 hop hfe
          go_wp2_with fail
          refine bodyPost_ret (v := .agg #[.int .i64 d'.op, .int .i64 d'.k, .int .i64 d'.n, .string d'.s, .string d'.nm, .slice A1 l.length c1]) (by simp [results, Tryz.results20, go_sem, c0]) rfl ?_
          rw [HFE.out]
          exact ⟨d', A1, l.length, c1, rfl, (HE.out _ _ _ _ _ _ _).1, (HE.out _ _ _ _ _ _ _).2⟩
  · -- the value is known
    obtain ⟨hk, hfe⟩ := HCon.out rfl
    have hlit := fun W => literal_any ⟨vk, vn, vs⟩ hk W
    have HL := Lib.hid hlit
    have HFE := Lib.hid hfe
    obtain ⟨u0, u1, u2⟩ := hv1.cells
    have ul := hv1.lt
    clear hk hlit hfe hv1 hx1 hz1 hbY hY HCon hb1
    go_upto_region 3 with fail
    rw [HY.out]
    go_wp2_with fail
    refine (HL.out _).mono ?_; rintro e w3 ⟨d3, B3, m3, c3, rfl, hi3, hb3⟩
    have hz3 := HZ1.out.below hb3
    have c0 := hz3.cell
    have f0 := hz3.frozen
    have zl := hz3.lt
    have hYs : w.heap.size + 2 ≤ Y.heap.size := by omega
    have HE := Lib.hid (made_end (b_trans HBY.out hb3) (hi3.imp (Q := fun b => w.heap.size + 2 ≤ b) fun b hb _ => by omega))
    clear hz3 hb3 hi3 u0 u1 u2 ul
    go_wp2_with fail
    refine bodyPost_ret (v := .agg #[.int .i64 d3.op, .int .i64 d3.k, .int .i64 d3.n, .string d3.s, .string d3.nm, .slice B3 m3 c3]) (by simp [results, Tryz.results20, go_sem, c0]) rfl ?_
    rw [HFE.out]
    exact ⟨d3, B3, m3, c3, rfl, (HE.out _ _ _ _ _ _).1, (HE.out _ _ _ _ _ _).2⟩
/-- P8.1. -/
def foldR (x : Ex) : Ex := if x.checkE = 0 then Ex.fold x else zeroE
def FoldOut (x : Ex) (W : World) (e : Ending) (W' : World) : Prop :=
  ∃ (d : Nd) (B : Option Addr) (m c : Nat), e = .returned (.tuple #[.agg #[.int .i64 d.op, .int .i64 d.k, .int .i64 d.n, .string d.s, .string d.nm, .slice B m c], .int .i64 x.checkE]) ∧ IsP (fun b => W.heap.size ≤ b) W' (foldR x) d B m ∧ Below W.heap.size W W'
set_option maxRecDepth 100000 in
set_option maxHeartbeats 2000000 in
theorem fold_any (x : Ex) (d : Nd) (A : Option Addr) (n c : Nat) (w : World) (his : Is w x d A n) (hT : Tab w) :
    Calls Tryz.prog 7 #[.agg #[.int .i64 d.op, .int .i64 d.k, .int .i64 d.n, .string d.s, .string d.nm, .slice A n c]] w (FoldOut x w) := by
  have hck := fun W (hb : Below w.heap.size w W) => ExC.check_any x d A n c W (his.below hb) (hT.below hb)
  have hsi := fun W (hb : Below w.heap.size w W) (h : x.checkE = 0) => simplified_any x d A n c W (checkE_zero h) (his.below hb) (hT.below hb)
  have hbx := (Box.new w d A n c).below (b_new _ (.cells #[.int .i64 0, .int .i64 0, .int .i64 0, .string ⟨#[]⟩, .string ⟨#[]⟩, .slice none 0 0] 26))
  have hz := EZ.new (w.alloc (.cells #[.int .i64 d.op, .int .i64 d.k, .int .i64 d.n, .string d.s, .string d.nm, .slice A n c] 26))
  rw [World.size_alloc] at hz
  have hb0 := b_more (b_new w (.cells #[.int .i64 d.op, .int .i64 d.k, .int .i64 d.n, .string d.s, .string d.nm, .slice A n c] 26)) (.cells #[.int .i64 0, .int .i64 0, .int .i64 0, .string ⟨#[]⟩, .string ⟨#[]⟩, .slice none 0 0] 26)
  obtain ⟨R, hR⟩ : ∃ R, x.checkE = R := ⟨_, rfl⟩
  have hfo : ∀ (e : Ending) (W' : World) d B m c, e = .returned (.tuple #[.agg #[.int .i64 d.op, .int .i64 d.k, .int .i64 d.n, .string d.s, .string d.nm, .slice B m c], .int .i64 R]) → IsP (fun b => w.heap.size ≤ b) W' (if R = 0 then Ex.fold x else zeroE) d B m → Below w.heap.size w W' → FoldOut x w e W' := fun e W' d B m c h1 h2 h3 => by
    unfold FoldOut foldR; rw [hR]; exact ⟨d, B, m, c, h1, h2, h3⟩
  rw [hR] at hck hsi
  have HCk := Lib.hid hck
  have HSi := Lib.hid hsi
  have HX := Lib.hid hbx
  have HZ := Lib.hid hz
  have HB := Lib.hid hb0
  have HFo := Lib.hid hfo
  clear hck hsi hbx hz hb0 hfo hR his hT
  go_enter Tryz.func7, Tryz.ntmps7
  go_wp2_with fail
  refine (HCk.out _ HB.out).mono ?_; rintro e w1 ⟨rfl, hb1⟩
  have hx1 := HX.out.below hb1
  have hz1 := HZ.out.below hb1
  have hbw := b_trans HB.out hb1
  by_cases h0 : R = 0
  · subst h0
    obtain ⟨b0, b1, b2, b3, b4, b5⟩ := hx1.cells
    have hc := HSi.out w1 hbw rfl
    have HC := Lib.hid hc
    have HZ1 := Lib.hid hz1
    have HBW := Lib.hid hbw
    have hws : w.heap.size + 2 ≤ w1.heap.size := by have := hb1.size; simpa using this
    clear hc hz1 hbw hb1 hx1
    go_wp2_with fail
    refine HC.out.mono ?_; rintro e w2 ⟨d2, B2, m2, c2, rfl, hi2, hb2⟩
    have hz2 := HZ1.out.below hb2
    have c0 := hz2.cell
    have f0 := hz2.frozen
    have zl := hz2.lt
    have HE := Lib.hid (made_end (b_trans HBW.out hb2) (hi2.imp (Q := fun b => w.heap.size + 2 ≤ b) fun b hb _ => by omega))
    clear hz2 hb2 hi2 b0 b1 b2 b3 b4 b5
    go_wp2_with fail
    refine bodyPost_ret (v := .tuple #[.agg #[.int .i64 d2.op, .int .i64 d2.k, .int .i64 d2.n, .string d2.s, .string d2.nm, .slice B2 m2 c2], .int .i64 0]) (by simp [results, Tryz.results7, go_sem, c0]) rfl ?_
    exact HFo.out _ _ d2 B2 m2 c2 rfl (by rw [if_pos trivial]; exact (HE.out _ _ _ _ _ _).1) (HE.out _ _ _ _ _ _).2
  · have t1 : (R != 0) = true := bne_iff_ne.2 h0
    have c0 := hz1.cell
    have f0 := hz1.frozen
    have zl := hz1.lt
    have HBW := Lib.hid hbw
    have HR := Lib.hid h0
    clear hz1 hbw hb1 hx1 h0 HSi
    go_wp2_with fail
    refine bodyPost_ret (v := .tuple #[.agg #[.int .i64 0, .int .i64 0, .int .i64 0, .string ⟨#[]⟩, .string ⟨#[]⟩, .slice none 0 0], .int .i64 R]) (by simp [results, Tryz.results7, go_sem, c0]) rfl ?_
    exact HFo.out _ _ ⟨0, 0, 0, ⟨#[]⟩, ⟨#[]⟩⟩ none 0 0 rfl (by rw [if_neg HR.out]; exact isP_leaf _ _ _ _ (Nat.zero_le _) (Nat.zero_le _)) (set6_below (i := 0) HBW.out (by omega) _ _ _ _ _ _)
end Go.Proofs.YtehkebncdahmcaaGreatDoor.FoS
