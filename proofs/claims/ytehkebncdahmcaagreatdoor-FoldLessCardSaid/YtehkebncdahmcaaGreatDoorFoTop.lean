/- Constant folding, whole: fold.literal, chosen, simplified, Fold. -/
import Derived.Test.YtehkebncdahmcaaGreatDoorFo
import Derived.Test.YtehkebncdahmcaaGreatDoorGen
import Derived.Deep.AppendLies
namespace Go.Proofs.YtehkebncdahmcaaGreatDoor.FoT
open Go.RowKit
open ValM LexM NumM ExM NmM EvM EvP FoM Kit ExL ExP ExV ExN NmC NmO Ev EvO EvF EvE Fo
set_option linter.unusedVariables false

/-- A box for a result, not yet written. -/
def EZ (w : World) (B : Nat) : Prop := w.heap[B]? = some (.cells #[.int .i64 0, .int .i64 0, .int .i64 0, .string ⟨#[]⟩, .string ⟨#[]⟩, .slice none 0 0] 26 (0, 0))
theorem EZ.cell {w : World} {B : Nat} (h : EZ w B) (o : Nat) : w.cell? ⟨B, o, none⟩ = (#[.int .i64 0, .int .i64 0, .int .i64 0, .string ⟨#[]⟩, .string ⟨#[]⟩, .slice none 0 0] : Array Value)[o]? := by unfold EZ at h; simp [World.cell?, h]
theorem EZ.frozen {w : World} {B : Nat} (h : EZ w B) (o : Nat) : w.frozen? ⟨B, o, none⟩ = false := by unfold EZ at h; simp [World.frozen?, h]
theorem EZ.lt {w : World} {B : Nat} (h : EZ w B) : B < w.heap.size := (Array.getElem?_eq_some_iff.1 h).1
theorem EZ.below {w w' : World} {B : Nat} (h : EZ w B) (hb : Below w.heap.size w w') : EZ w' B := (hb.block B h.lt).trans h
theorem EZ.new (w : World) : EZ (w.alloc (.cells #[.int .i64 0, .int .i64 0, .int .i64 0, .string ⟨#[]⟩, .string ⟨#[]⟩, .slice none 0 0] 26)) w.heap.size := World.alloc_heap_new w _
theorem box_frozen {w : World} {B : Nat} {d : Nd} {A : Option Addr} {m c : Nat} (h : Box w B d A m c) (o : Nat) : w.frozen? ⟨B, o, none⟩ = false := by unfold Box at h; simp [World.frozen?, h]
theorem box_cell {w : World} {B : Nat} {d : Nd} {A : Option Addr} {m c : Nat} (h : Box w B d A m c) (o : Nat) : w.cell? ⟨B, o, none⟩ = (#[.int .i64 d.op, .int .i64 d.k, .int .i64 d.n, .string d.s, .string d.nm, .slice A m c] : Array Value)[o]? := by unfold Box at h; simp [World.cell?, h]
theorem isP_d {P : Nat → Prop} {w : World} {x : Ex} {d : Nd} {A : Option Addr} {n : Nat} (h : IsP P w x d A n) : x.d = d := by
  cases x; rw [isP_mk] at h; exact h.1.symm

theorem known_size {v : Vl} (h : knV v = true) : v.s.size ≤ maxLen := by
  rcases ok_cases (known_cases h).1 with g | g | g | g | g
  · rw [g.2.2]; exact Nat.zero_le _
  · rw [g.2.2]; exact Nat.zero_le _
  · have := g.2.2.1; unfold maxLen; omega
  · rw [g.2.2]; exact Nat.zero_le _
  · rw [g.2.2.2]; exact Nat.zero_le _
set_option maxRecDepth 100000 in
set_option maxHeartbeats 1000000 in
theorem lit_pos (k n : Int) (s : ByteArray) (hk : knV ⟨k, n, s⟩ = true) (h2 : ¬ (k = 1 ∧ n < 0)) (w : World) :
    Calls Tryz.prog 36 #[.agg #[.int .i64 k, .int .i64 n, .string s]] w (Made (litE ⟨k, n, s⟩) w) := by
  rw [litE_pos h2]
  have hs : s.size ≤ maxLen := known_size hk
  have HS := Lib.hid hs
  have key : ∀ e W', e = Ending.returned (.agg #[.int .i64 1, .int .i64 k, .int .i64 n, .string s, .string ⟨#[]⟩, .slice none 0 0]) → Below w.heap.size w W' → Made (.mk (constN ⟨k, n, s⟩) []) w e W' := fun e W' he hb => by
    subst he
    exact ⟨constN ⟨k, n, s⟩, none, 0, 0, rfl, isP_leaf _ _ _ _ HS.out (Nat.zero_le _), hb⟩
  have HK := Lib.hid key
  clear hs hk key
  by_cases h1 : k = 1
  · have t1 : (k == 1) = true := by simp [h1]
    have t2 : ¬ n < 0 := fun h => h2 ⟨h1, h⟩
    clear h1 h2
    go_enter Tryz.func36, Tryz.ntmps36
    go_wp2_with fail
    refine bodyPost_ret (v := .agg #[.int .i64 1, .int .i64 k, .int .i64 n, .string s, .string ⟨#[]⟩, .slice none 0 0]) (by simp [results, Tryz.results36, go_sem]) rfl ?_
    refine HK.out _ _ rfl ?_
    exact b_more (b_new _ _) _
  · have t1 : (k == 1) = false := beq_eq_false_iff_ne.2 h1
    clear h1 h2
    go_enter Tryz.func36, Tryz.ntmps36
    go_wp2_with fail
    refine bodyPost_ret (v := .agg #[.int .i64 1, .int .i64 k, .int .i64 n, .string s, .string ⟨#[]⟩, .slice none 0 0]) (by simp [results, Tryz.results36, go_sem]) rfl ?_
    refine HK.out _ _ rfl ?_
    exact b_more (b_new _ _) _
set_option maxRecDepth 100000 in
set_option maxHeartbeats 1000000 in
theorem literal_any (v : Vl) (hk : knV v = true) (w : World) :
    Calls Tryz.prog 36 #[.agg #[.int .i64 v.k, .int .i64 v.n, .string v.s]] w (Made (litE v) w) := by
  obtain ⟨k, n, s⟩ := v
  by_cases h2 : k = 1 ∧ n < 0
  · obtain ⟨g1, g2, g3⟩ := known_neg hk h2
    have hl := fun W => lit_pos k (-n) s g1 (fun g => by omega) W
    rw [litE_pos (show ¬ ((⟨k, -n, s⟩ : Vl).k = 1 ∧ (⟨k, -n, s⟩ : Vl).n < 0) from fun g => by have := g.2; simp only at this; omega)] at hl
    rw [litE_neg h2]
    obtain ⟨rfl, h2⟩ := h2
    have hw : IntKind.i64.wrap (-n) = -n := IntWalk.i64_in _ (by unfold okN at g2; simp only [decide_eq_true_eq] at g2; omega)
    have HL := Lib.hid hl
    have hz1 := EZ.new (w.alloc (.cells #[.int .i64 1, .int .i64 (-n), .string s] 23))
    rw [World.size_alloc] at hz1
    have hb := b_more (b_new w (.cells #[.int .i64 1, .int .i64 (-n), .string s] 23)) (.cells #[.int .i64 0, .int .i64 0, .int .i64 0, .string ⟨#[]⟩, .string ⟨#[]⟩, .slice none 0 0] 26)
    obtain ⟨Y, hY⟩ : ∃ Y, ((w.alloc (.cells #[.int .i64 1, .int .i64 (-n), .string s] 23)).alloc (.cells #[.int .i64 0, .int .i64 0, .int .i64 0, .string ⟨#[]⟩, .string ⟨#[]⟩, .slice none 0 0] 26)) = Y := ⟨_, rfl⟩
    rw [hY] at hb hz1
    have HB := Lib.hid hb
    have HZ := Lib.hid hz1
    have HY := Lib.hid hY
    have HW := Lib.hid hw
    clear hk g1 g2 g3 hl hb hz1 hY
    go_enter Tryz.func36, Tryz.ntmps36
    go_wp2_with fail
    rw [HY.out]
    refine (HL.out _).mono ?_; rintro e w1 ⟨d, B, m, c, rfl, hi, hb1⟩
    have hz1 := HZ.out.below hb1
    have hb2 := b_trans HB.out hb1
    have hYs := hb1.size
    have c0 := hz1.cell
    have f0 := hz1.frozen
    have zl := hz1.lt
    have hys : w.heap.size + 1 < Y.heap.size := HZ.out.lt
    have hfin : ∀ v0 v1 v2 v3 v4 v5, IsP (fun b => w.heap.size ≤ b) ((((((((w1.setCell ⟨w.heap.size + 1, 0, none⟩ v0).setCell ⟨w.heap.size + 1, 1, none⟩ v1).setCell ⟨w.heap.size + 1, 2, none⟩ v2).setCell ⟨w.heap.size + 1, 3, none⟩ v3).setCell ⟨w.heap.size + 1, 4, none⟩ v4).setCell ⟨w.heap.size + 1, 5, none⟩ v5)).alloc (.cells #[.int .i64 d.op, .int .i64 d.k, .int .i64 d.n, .string d.s, .string d.nm, .slice B m c] 26)) (.mk negN [.mk (constN ⟨1, -n, s⟩) []]) negN (some ⟨w1.heap.size, 0, none⟩) 1 ∧ Below w.heap.size w ((((((((w1.setCell ⟨w.heap.size + 1, 0, none⟩ v0).setCell ⟨w.heap.size + 1, 1, none⟩ v1).setCell ⟨w.heap.size + 1, 2, none⟩ v2).setCell ⟨w.heap.size + 1, 3, none⟩ v3).setCell ⟨w.heap.size + 1, 4, none⟩ v4).setCell ⟨w.heap.size + 1, 5, none⟩ v5)).alloc (.cells #[.int .i64 d.op, .int .i64 d.k, .int .i64 d.n, .string d.s, .string d.nm, .slice B m c] 26)) := fun v0 v1 v2 v3 v4 v5 => by
      have hk : IsP (fun b => w.heap.size ≤ b) ((((((w1.setCell ⟨w.heap.size + 1, 0, none⟩ v0).setCell ⟨w.heap.size + 1, 1, none⟩ v1).setCell ⟨w.heap.size + 1, 2, none⟩ v2).setCell ⟨w.heap.size + 1, 3, none⟩ v3).setCell ⟨w.heap.size + 1, 4, none⟩ v4).setCell ⟨w.heap.size + 1, 5, none⟩ v5) (.mk (constN ⟨1, -n, s⟩) []) d B m :=
        IsP.keep (fun b hb hl => set6_block (i := 0) (by omega) _ _ _ _ _ _) (fun b hb hl => by omega) _ _ _ _ hi
      have hbk := set6_below (i := 0) (g := w.heap.size + 1) hb2 (by omega) v0 v1 v2 v3 v4 v5
      have hsz : ((((((w1.setCell ⟨w.heap.size + 1, 0, none⟩ v0).setCell ⟨w.heap.size + 1, 1, none⟩ v1).setCell ⟨w.heap.size + 1, 2, none⟩ v2).setCell ⟨w.heap.size + 1, 3, none⟩ v3).setCell ⟨w.heap.size + 1, 4, none⟩ v4).setCell ⟨w.heap.size + 1, 5, none⟩ v5).heap.size = w1.heap.size := set6_size (i := 0) v0 v1 v2 v3 v4 v5
      generalize ((((((w1.setCell ⟨w.heap.size + 1, 0, none⟩ v0).setCell ⟨w.heap.size + 1, 1, none⟩ v1).setCell ⟨w.heap.size + 1, 2, none⟩ v2).setCell ⟨w.heap.size + 1, 3, none⟩ v3).setCell ⟨w.heap.size + 1, 4, none⟩ v4).setCell ⟨w.heap.size + 1, 5, none⟩ v5) = V at hk hsz hbk
      refine ⟨?_, b_more hbk _⟩
      have hn := Box.new V d B m c
      rw [hsz] at hn
      refine isP_row (es := [⟨_, d, B, m, c⟩]) (fun j hj => ?_) (by omega) (by simp [maxLen]) (Nat.zero_le _) (Nat.zero_le _) (fun e he => ?_)
      · rw [box_cell hn j]; simp [elC, El.cells]
      · simp at he; subst he
        exact hk.below (b_new V _)
    have HFin := Lib.hid hfin
    clear hi hb1 hz1 hb2 hfin
    go_wp2_with fail
    refine bodyPost_ret (v := .agg #[.int .i64 3, .int .i64 0, .int .i64 0, .string ⟨#[]⟩, .string ⟨#[]⟩, .slice (some ⟨w1.heap.size, 0, none⟩) 1 1]) (by simp [results, Tryz.results36, go_sem, c0, zl]) rfl ?_
    exact ⟨negN, some ⟨w1.heap.size, 0, none⟩, 1, 1, rfl, (HFin.out _ _ _ _ _ _).1, (HFin.out _ _ _ _ _ _).2⟩
  · exact lit_pos k n s hk h2 w
end Go.Proofs.YtehkebncdahmcaaGreatDoor.FoT
