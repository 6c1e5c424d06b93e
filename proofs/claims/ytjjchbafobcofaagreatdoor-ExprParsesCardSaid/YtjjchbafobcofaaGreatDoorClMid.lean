/- The reference's ahead: a sign ahead. The reference's ahead: a bracket. The climber's next text and the tokens: a quote's text begins with its sign. -/
import Derived.Test.YtjjchbafobcofaaGreatDoorClLow
import Derived.Test.YtjjchbafobcofaaGreatDoorPsForm
import Derived.Test.YtjjchbafobcofaaGreatDoorPsTot
namespace Go.Proofs.YtjjchbafobcofaaGreatDoor.Cl
open Go.RowKit
open LexM ExM Kit ExL ExP PsM PsT NmC Ps PsR
set_option linter.unusedVariables false

section
variable {w0 : World} {P : Nat} {A : Option Addr} {c : Nat} {L : List Tk} {w : World} {k : Nat}

theorem parts_of {w' : World} {o : Out} {e : Ending} (h : EndsC w0 P A c L w k o e w') : ∃ (p0 p1 p2 : Int) (p3 p4 : ByteArray) (p5 : Option Addr) (pm pc k' : Nat) (b' : Bool), e = .returned (.agg #[.int .i64 p0, .int .i64 p1, .int .i64 p2, .string p3, .string p4, .slice p5 pm pc]) ∧ CSt w0 P A c L w' k' b' ∧ w.grownBy w' (some P) ∧ ((b' = true ∧ o = .bad (L.drop k')) ∨ (b' = false ∧ k ≤ k' ∧ ∃ x, o = .ok [x] (L.drop k') ∧ IsP (fun b => w.heap.size ≤ b) w' x ⟨p0, p1, p2, p3, p4⟩ p5 pm)) := by
  cases o with
  | tired => exact h.elim
  | bad r =>
    obtain ⟨v, k', rfl, ⟨p0, p1, p2, p3, p4, p5, pm, pc, rfl⟩, rfl, hS, hg⟩ := h
    exact ⟨p0, p1, p2, p3, p4, p5, pm, pc, k', true, rfl, hS, hg, .inl ⟨rfl, rfl⟩⟩
  | ok l r =>
    obtain ⟨x, rfl⟩ : ∃ x, l = [x] := by
      match l, h with
      | [], h => exact h.elim
      | x :: y :: l, h => exact h.elim
      | [x], h => exact ⟨x, rfl⟩
    obtain ⟨d, B, m, cp, k', rfl, hix, rfl, hk, hS, hg⟩ := h
    exact ⟨d.op, d.k, d.n, d.s, d.nm, B, m, cp, k', false, rfl, hS, hg, .inr ⟨rfl, hk, x, rfl, hix⟩⟩

theorem sign_fin {V w3 : World} {o : Out} {p0 p1 p2 : Int} {p3 p4 : ByteArray} {p5 : Option Addr} {pm pc k' : Nat} {b' : Bool} (hw0 : w0.heap.size ≤ w.heap.size) (lP : P < w.heap.size) (gV : w.grownBy V (some P)) (sV : V.heap.size = w.heap.size + 1)
    (kV : V.heap[w.heap.size]? = some (.cells #[.int .i64 0, .int .i64 0, .int .i64 0, .string ⟨#[]⟩, .string ⟨#[]⟩, .slice none 0 0] 26 (0, 0))) (hS3 : CSt w0 P A c L w3 k' b') (hg3 : V.grownBy w3 (some P))
    (hres : (b' = true ∧ o = .bad (L.drop k')) ∨ (b' = false ∧ k + 1 ≤ k' ∧ ∃ x, o = .ok [x] (L.drop k') ∧ IsP (fun b => V.heap.size ≤ b) w3 x ⟨p0, p1, p2, p3, p4⟩ p5 pm)) (op : Nat) :
    ((S6 w3 w.heap.size (.int .i64 (op : Int)) (.int .i64 0) (.int .i64 0) (.string ⟨#[]⟩) (.string ⟨#[]⟩) (.slice (some ⟨w3.heap.size, 0, none⟩) 1 1)).alloc (.cells #[.int .i64 p0, .int .i64 p1, .int .i64 p2, .string p3, .string p4, .slice p5 pm pc] 26 (0, 0))).heap[w.heap.size]? = some (.cells #[.int .i64 (op : Int), .int .i64 0, .int .i64 0, .string ⟨#[]⟩, .string ⟨#[]⟩, .slice (some ⟨w3.heap.size, 0, none⟩) 1 1] 26 (0, 0)) ∧
    EndsC w0 P A c L w k (wrap op o) (.returned (.agg #[.int .i64 (op : Int), .int .i64 0, .int .i64 0, .string ⟨#[]⟩, .string ⟨#[]⟩, .slice (some ⟨w3.heap.size, 0, none⟩) 1 1])) ((S6 w3 w.heap.size (.int .i64 (op : Int)) (.int .i64 0) (.int .i64 0) (.string ⟨#[]⟩) (.string ⟨#[]⟩) (.slice (some ⟨w3.heap.size, 0, none⟩) 1 1)).alloc (.cells #[.int .i64 p0, .int .i64 p1, .int .i64 p2, .string p3, .string p4, .slice p5 pm pc] 26 (0, 0))) := by
  have k3 := (hg3.block w.heap.size (by omega) (fun e => by injection e with e; omega)).trans kV
  have kS := set6_box k3 (.int .i64 (op : Int)) (.int .i64 0) (.int .i64 0) (.string ⟨#[]⟩) (.string ⟨#[]⟩) (.slice (some ⟨w3.heap.size, 0, none⟩) 1 1)
  have hh := fun b (hb : b ≠ w.heap.size) => s6_heap w3 w.heap.size b hb (.int .i64 (op : Int)) (.int .i64 0) (.int .i64 0) (.string ⟨#[]⟩) (.string ⟨#[]⟩) (.slice (some ⟨w3.heap.size, 0, none⟩) 1 1)
  have hz := s6_size w3 w.heap.size (.int .i64 (op : Int)) (.int .i64 0) (.int .i64 0) (.string ⟨#[]⟩) (.string ⟨#[]⟩) (.slice (some ⟨w3.heap.size, 0, none⟩) 1 1)
  obtain ⟨r1, r2⟩ := fin6 hS3 (grown_trans gV hg3) hw0 lP (.int .i64 (op : Int)) (.int .i64 0) (.int .i64 0) (.string ⟨#[]⟩) (.string ⟨#[]⟩) (.slice (some ⟨w3.heap.size, 0, none⟩) 1 1)
  generalize S6 w3 w.heap.size (.int .i64 (op : Int)) (.int .i64 0) (.int .i64 0) (.string ⟨#[]⟩) (.string ⟨#[]⟩) (.slice (some ⟨w3.heap.size, 0, none⟩) 1 1) = S at kS hh hz r1 r2 ⊢
  have hnew := World.alloc_heap_new S (.cells #[.int .i64 p0, .int .i64 p1, .int .i64 p2, .string p3, .string p4, .slice p5 pm pc] 26 (0, 0))
  have hbn := b_new S (.cells #[.int .i64 p0, .int .i64 p1, .int .i64 p2, .string p3, .string p4, .slice p5 pm pc] 26 (0, 0))
  generalize S.alloc (.cells #[.int .i64 p0, .int .i64 p1, .int .i64 p2, .string p3, .string p4, .slice p5 pm pc] 26 (0, 0)) = Y at hnew hbn ⊢
  rw [hz] at hnew
  have q1 := r1.keep hbn
  have q2 := grown_trans r2 (grown_below hbn (some P))
  refine ⟨(hbn.block _ (Array.getElem?_eq_some_iff.1 kS).1).trans kS, ?_⟩
  rcases hres with ⟨rfl, rfl⟩ | ⟨rfl, hk', x, rfl, hix⟩
  · exact ⟨_, k', rfl, ⟨_, _, _, _, _, _, _, _, rfl⟩, rfl, q1, q2⟩
  · refine ⟨⟨(op : Int), 0, 0, ⟨#[]⟩, ⟨#[]⟩⟩, some ⟨w3.heap.size, 0, none⟩, 1, 1, k', rfl, ?_, rfl, by omega, q1, q2⟩
    have gz := hg3.size
    have hx : IsP (fun b => w.heap.size ≤ b) Y x ⟨p0, p1, p2, p3, p4⟩ p5 pm := IsP.keep (fun b hb hl => by
      have h1 : V.heap.size ≤ b := hb
      exact (hbn.block b (by omega)).trans (hh b (by omega))) (fun b hb _ => by have h1 : V.heap.size ≤ b := hb; show w.heap.size ≤ b; omega) _ _ _ _ hix
    have := isP_row (P := fun b => w.heap.size ≤ b) (w := Y) (d := ⟨(op : Int), 0, 0, ⟨#[]⟩, ⟨#[]⟩⟩) (es := [⟨x, ⟨p0, p1, p2, p3, p4⟩, p5, pm, pc⟩]) (g := w3.heap.size) (fun j hj => by rw [(cells_of hnew).1]; simp [elC, El.cells]) (by show w.heap.size ≤ w3.heap.size; omega) (by unfold maxLen; simp) (Nat.zero_le _) (Nat.zero_le _) (fun e he => by simp at he; subst he; exact hx)
    exact this

set_option maxRecDepth 100000 in
set_option maxHeartbeats 4000000 in
theorem ahead_sign (hE : CEnv w0 P A L) (hS : CSt w0 P A c L w k false) (op : Nat) (S : ByteArray) (hn : (⟨(nextS (L.drop k)).toArray⟩ : ByteArray) = S) (hop : (op = 3 ∧ S = ⟨#[45]⟩) ∨ (op = 4 ∧ S = ⟨#[110, 111, 116]⟩)) (o : Out)
    (hA : ∀ W, CSt w0 P A c L W (k + 1) false → Calls Tryz.prog 25 #[.pointer (some ⟨P, 0, none⟩)] W (EndsC w0 P A c L W (k + 1) o)) :
    Calls Tryz.prog 25 #[.pointer (some ⟨P, 0, none⟩)] w (EndsC w0 P A c L w k (wrap op o)) := by
  have hk : k < L.length := next_lt (fun h0 => by rw [h0] at hn; rcases hop with ⟨_, h⟩ | ⟨_, h⟩ <;> (rw [h] at hn; cases hn))
  obtain ⟨W, hW⟩ : ∃ W, w.alloc (.cells #[.int .i64 0, .int .i64 0, .int .i64 0, .string ⟨#[]⟩, .string ⟨#[]⟩, .slice none 0 0] 26) = W := ⟨_, rfl⟩
  have hb : Below w.heap.size w W := by rw [← hW]; exact b_new _ _
  have hsz : W.heap.size = w.heap.size + 1 := by rw [← hW]; simp
  have k1 : W.heap[w.heap.size]? = some (.cells #[.int .i64 0, .int .i64 0, .int .i64 0, .string ⟨#[]⟩, .string ⟨#[]⟩, .slice none 0 0] 26 (0, 0)) := by rw [← hW]; exact World.alloc_heap_new w _
  have hSW := hS.keep hb
  have hN := next_c hE hSW
  rw [hn] at hN
  have hw : IntKind.i64.wrap ((k : Int) + 1) = (k : Int) + 1 := IntWalk.i64_in _ (by have := hS.le; have := hE.len; omega)
  obtain ⟨h0, h1, h2⟩ := hSW.at
  have hf := hSW.frozen 1
  obtain ⟨c1, f1⟩ := cells_of k1
  have l1 := (Array.getElem?_eq_some_iff.1 k1).1
  have HW := Lib.hid hW
  have HS := Lib.hid hSW
  have HB := Lib.hid hb
  have HB0 := Lib.hid hS.below.size
  have n1 : P ≠ w.heap.size := by have := hS.lt; omega
  have n2 : w.heap.size ≠ P := fun e => n1 e.symm
  have HN := Lib.hid hN
  have HA := Lib.hid hA
  have K1 := Lib.hid k1
  have lP := hS.lt
  clear hW hSW hb hS k1 hN hA
  go_enter Tryz.func25, Tryz.ntmps25
  go_upto_region 1 with fail
  rw [HW.out]
  go_wp2_with fail
  refine HN.out.mono ?_
  rintro e w1 ⟨rfl, m, rfl⟩
  have hS1 := (HS.out.drew m).took hE.hP hk
  have gX := grown_trans (grown_below (b_drewN HB.out m) (some P)) (grown_set _ P 1 (.int .i64 ((k : Int) + 1)))
  have kX := (Below.heap_setCell (W.drewN m) ⟨P, 1, none⟩ (.int .i64 ((k : Int) + 1)) w.heap.size n2).trans K1.out
  have sX : ((W.drewN m).setCell ⟨P, 1, none⟩ (.int .i64 ((k : Int) + 1))).heap.size = w.heap.size + 1 := by rw [sz_set]; exact hsz
  obtain ⟨V, hV⟩ : ∃ V, (W.drewN m).setCell ⟨P, 1, none⟩ (.int .i64 ((k : Int) + 1)) = V := ⟨_, rfl⟩
  rw [hV] at hS1 gX kX sX
  have hA1 := HA.out V hS1
  have HV := Lib.hid hV
  have HA1 := Lib.hid hA1
  have GX := Lib.hid gX
  have KX := Lib.hid kX
  clear hA1 hV gX kX hS1 HA
  rcases hop with ⟨rfl, rfl⟩ | ⟨rfl, rfl⟩
  · go_upto_region 11 with fail
    rw [HV.out]
    go_wp2_with fail
    refine HA1.out.mono ?_
    intro e w3 he
    obtain ⟨p0, p1, p2, p3, p4, p5, pm, pc, k', b', rfl, hS3, hg3, hres⟩ := parts_of he
    have F := sign_fin (pc := pc) HB0.out lP GX.out sX KX.out hS3 hg3 hres 3
    have k3 := (hg3.block w.heap.size (by omega) (fun e => by injection e with e; omega)).trans KX.out
    obtain ⟨y1, z1⟩ := cells_of k3
    have l3 := (Array.getElem?_eq_some_iff.1 k3).1
    have HF := Lib.hid F
    clear F he hS3 hg3 hres k3 HV HA1 c1 f1 l1 h0 h1 h2 hf
    go_wp2_with fail
    generalize hY : World.alloc _ _ = Y
    have kY : Y.heap[w.heap.size]? = some (.cells #[.int .i64 3, .int .i64 0, .int .i64 0, .string ⟨#[]⟩, .string ⟨#[]⟩, .slice (some ⟨w3.heap.size, 0, none⟩) 1 1] 26 (0, 0)) := by rw [← hY]; exact HF.out.1
    have eY : EndsC w0 P A c L w k (wrap 3 o) (.returned (.agg #[.int .i64 3, .int .i64 0, .int .i64 0, .string ⟨#[]⟩, .string ⟨#[]⟩, .slice (some ⟨w3.heap.size, 0, none⟩) 1 1])) Y := by rw [← hY]; exact HF.out.2
    obtain ⟨t1, _⟩ := cells_of kY
    clear hY y1 z1
    refine bodyPost_ret (v := .agg #[.int .i64 3, .int .i64 0, .int .i64 0, .string ⟨#[]⟩, .string ⟨#[]⟩, .slice (some ⟨w3.heap.size, 0, none⟩) 1 1]) (by simp [results, Tryz.results25, go_sem, t1]) rfl eY
  · go_upto_region 11 with fail
    rw [HV.out]
    go_wp2_with fail
    refine HA1.out.mono ?_
    intro e w3 he
    obtain ⟨p0, p1, p2, p3, p4, p5, pm, pc, k', b', rfl, hS3, hg3, hres⟩ := parts_of he
    have F := sign_fin (pc := pc) HB0.out lP GX.out sX KX.out hS3 hg3 hres 4
    have k3 := (hg3.block w.heap.size (by omega) (fun e => by injection e with e; omega)).trans KX.out
    obtain ⟨y1, z1⟩ := cells_of k3
    have l3 := (Array.getElem?_eq_some_iff.1 k3).1
    have HF := Lib.hid F
    clear F he hS3 hg3 hres k3 HV HA1 c1 f1 l1 h0 h1 h2 hf
    go_wp2_with fail
    generalize hY : World.alloc _ _ = Y
    have kY : Y.heap[w.heap.size]? = some (.cells #[.int .i64 4, .int .i64 0, .int .i64 0, .string ⟨#[]⟩, .string ⟨#[]⟩, .slice (some ⟨w3.heap.size, 0, none⟩) 1 1] 26 (0, 0)) := by rw [← hY]; exact HF.out.1
    have eY : EndsC w0 P A c L w k (wrap 4 o) (.returned (.agg #[.int .i64 4, .int .i64 0, .int .i64 0, .string ⟨#[]⟩, .string ⟨#[]⟩, .slice (some ⟨w3.heap.size, 0, none⟩) 1 1])) Y := by rw [← hY]; exact HF.out.2
    obtain ⟨t1, _⟩ := cells_of kY
    clear hY y1 z1
    refine bodyPost_ret (v := .agg #[.int .i64 4, .int .i64 0, .int .i64 0, .string ⟨#[]⟩, .string ⟨#[]⟩, .slice (some ⟨w3.heap.size, 0, none⟩) 1 1]) (by simp [results, Tryz.results25, go_sem, t1]) rfl eY

end
end Go.Proofs.YtjjchbafobcofaaGreatDoor.Cl
namespace Go.Proofs.YtjjchbafobcofaaGreatDoor.Cl
open Go.RowKit
open LexM ExM Kit ExL ExP PsM PsT NmC Ps PsR
set_option linter.unusedVariables false

/-- What a formula in brackets comes to. -/
def oP : Out → Out
  | .ok [x] r => if nextS r = [41] then .ok [x] r.tail else .bad r
  | o => o
section
variable {w0 : World} {P : Nat} {A : Option Addr} {c : Nat} {L : List Tk} {w : World} {k : Nat}

theorem paren_fin {V w3 W4 : World} {o : Out} {p0 p1 p2 : Int} {p3 p4 : ByteArray} {p5 : Option Addr} {pm pc k' : Nat} {b' : Bool} (hw0 : w0.heap.size ≤ w.heap.size) (lP : P < w.heap.size) (gV : w.grownBy V (some P)) (sV : V.heap.size = w.heap.size + 1)
    (kV : V.heap[w.heap.size]? = some (.cells #[.int .i64 0, .int .i64 0, .int .i64 0, .string ⟨#[]⟩, .string ⟨#[]⟩, .slice none 0 0] 26 (0, 0))) (hS3 : CSt w0 P A c L w3 k' b') (hg3 : V.grownBy w3 (some P))
    (hres : (b' = true ∧ o = .bad (L.drop k')) ∨ (b' = false ∧ k + 1 ≤ k' ∧ ∃ x, o = .ok [x] (L.drop k') ∧ IsP (fun b => V.heap.size ≤ b) w3 x ⟨p0, p1, p2, p3, p4⟩ p5 pm))
    (hb4 : Below w3.heap.size w3 W4) (hn4 : W4.heap[w3.heap.size]? = some (.cells #[.int .i64 p0, .int .i64 p1, .int .i64 p2, .string p3, .string p4, .slice p5 pm pc] 26 (0, 0))) (w5 : World) (hg5 : W4.grownBy w5 (some P))
    (hp5 : if b' = false ∧ nextS (L.drop k') = [41] then k' < L.length ∧ CSt w0 P A c L w5 (k' + 1) false else CSt w0 P A c L w5 k' true) :
    w5.heap[w.heap.size]? = some (.cells #[.int .i64 0, .int .i64 0, .int .i64 0, .string ⟨#[]⟩, .string ⟨#[]⟩, .slice none 0 0] 26 (0, 0)) ∧ w5.heap[w3.heap.size]? = some (.cells #[.int .i64 p0, .int .i64 p1, .int .i64 p2, .string p3, .string p4, .slice p5 pm pc] 26 (0, 0)) ∧
    EndsC w0 P A c L w k (oP o) (.returned (.agg #[.int .i64 p0, .int .i64 p1, .int .i64 p2, .string p3, .string p4, .slice p5 pm pc])) (S6 w5 w.heap.size (.int .i64 p0) (.int .i64 p1) (.int .i64 p2) (.string p3) (.string p4) (.slice p5 pm pc)) := by
  have gz := hg3.size
  have lt4 := (Array.getElem?_eq_some_iff.1 hn4).1
  have k3 := (hg3.block w.heap.size (by omega) (fun e => by injection e with e; omega)).trans kV
  have k4 := (hb4.block _ (Array.getElem?_eq_some_iff.1 k3).1).trans k3
  have k5 := (hg5.block _ (Array.getElem?_eq_some_iff.1 k4).1 (fun e => by injection e with e; omega)).trans k4
  refine ⟨k5, (hg5.block _ lt4 (fun e => by injection e with e; omega)).trans hn4, ?_⟩
  have gw : w.grownBy w5 (some P) := grown_trans (grown_trans (grown_trans gV hg3) (grown_below hb4 (some P))) hg5
  have hh := fun b (hb : b ≠ w.heap.size) => s6_heap w5 w.heap.size b hb (.int .i64 p0) (.int .i64 p1) (.int .i64 p2) (.string p3) (.string p4) (.slice p5 pm pc)
  rcases hres with ⟨rfl, rfl⟩ | ⟨rfl, hk', x, rfl, hix⟩
  · rw [if_neg (by simp)] at hp5
    obtain ⟨r1, r2⟩ := fin6 hp5 gw hw0 lP (.int .i64 p0) (.int .i64 p1) (.int .i64 p2) (.string p3) (.string p4) (.slice p5 pm pc)
    exact ⟨_, k', rfl, ⟨_, _, _, _, _, _, _, _, rfl⟩, rfl, r1, r2⟩
  · have hs4 := hb4.size
    by_cases hn : nextS (L.drop k') = [41]
    · rw [if_pos ⟨rfl, hn⟩] at hp5
      obtain ⟨r1, r2⟩ := fin6 hp5.2 gw hw0 lP (.int .i64 p0) (.int .i64 p1) (.int .i64 p2) (.string p3) (.string p4) (.slice p5 pm pc)
      have e1 : oP (.ok [x] (L.drop k')) = .ok [x] (L.drop (k' + 1)) := by show (if nextS (L.drop k') = [41] then Out.ok [x] (L.drop k').tail else .bad (L.drop k')) = _; rw [if_pos hn, List.tail_drop]
      rw [e1]
      refine ⟨⟨p0, p1, p2, p3, p4⟩, p5, pm, pc, k' + 1, rfl, ?_, rfl, by omega, r1, r2⟩
      exact IsP.keep (fun b hb hl => by
        have h1 : V.heap.size ≤ b := hb
        exact (hh b (by omega)).trans ((hg5.block b (by omega) (fun e => by injection e with e; omega)).trans (hb4.block b hl))) (fun b hb _ => by have h1 : V.heap.size ≤ b := hb; show w.heap.size ≤ b; omega) _ _ _ _ hix
    · rw [if_neg (fun h => hn h.2)] at hp5
      obtain ⟨r1, r2⟩ := fin6 hp5 gw hw0 lP (.int .i64 p0) (.int .i64 p1) (.int .i64 p2) (.string p3) (.string p4) (.slice p5 pm pc)
      have e1 : oP (.ok [x] (L.drop k')) = .bad (L.drop k') := by show (if nextS (L.drop k') = [41] then Out.ok [x] (L.drop k').tail else .bad (L.drop k')) = _; rw [if_neg hn]
      rw [e1]
      exact ⟨_, k', rfl, ⟨_, _, _, _, _, _, _, _, rfl⟩, rfl, r1, r2⟩

set_option maxRecDepth 100000 in
set_option maxHeartbeats 4000000 in
theorem ahead_paren (hE : CEnv w0 P A L) (hS : CSt w0 P A c L w k false) (hn : nextS (L.drop k) = [40]) (o : Out)
    (hA : ∀ W, CSt w0 P A c L W (k + 1) false → Calls Tryz.prog 11 #[.pointer (some ⟨P, 0, none⟩), .int .i64 1] W (EndsC w0 P A c L W (k + 1) o)) :
    Calls Tryz.prog 25 #[.pointer (some ⟨P, 0, none⟩)] w (EndsC w0 P A c L w k (oP o)) := by
  have hk : k < L.length := next_lt (by rw [hn]; simp)
  obtain ⟨W, hW⟩ : ∃ W, w.alloc (.cells #[.int .i64 0, .int .i64 0, .int .i64 0, .string ⟨#[]⟩, .string ⟨#[]⟩, .slice none 0 0] 26) = W := ⟨_, rfl⟩
  have hb : Below w.heap.size w W := by rw [← hW]; exact b_new _ _
  have hsz : W.heap.size = w.heap.size + 1 := by rw [← hW]; simp
  have k1 : W.heap[w.heap.size]? = some (.cells #[.int .i64 0, .int .i64 0, .int .i64 0, .string ⟨#[]⟩, .string ⟨#[]⟩, .slice none 0 0] 26 (0, 0)) := by rw [← hW]; exact World.alloc_heap_new w _
  have hSW := hS.keep hb
  have hN := next_c hE hSW
  rw [hn] at hN
  have hw : IntKind.i64.wrap ((k : Int) + 1) = (k : Int) + 1 := IntWalk.i64_in _ (by have := hS.le; have := hE.len; omega)
  obtain ⟨h0, h1, h2⟩ := hSW.at
  have hf := hSW.frozen 1
  obtain ⟨c1, f1⟩ := cells_of k1
  have l1 := (Array.getElem?_eq_some_iff.1 k1).1
  have HW := Lib.hid hW
  have HS := Lib.hid hSW
  have HB := Lib.hid hb
  have HB0 := Lib.hid hS.below.size
  have n1 : P ≠ w.heap.size := by have := hS.lt; omega
  have n2 : w.heap.size ≠ P := fun e => n1 e.symm
  have HN := Lib.hid hN
  have HA := Lib.hid hA
  have K1 := Lib.hid k1
  have lP := hS.lt
  clear hW hSW hb hS k1 hN hA
  go_enter Tryz.func25, Tryz.ntmps25
  go_upto_region 1 with fail
  rw [HW.out]
  go_wp2_with fail
  refine HN.out.mono ?_
  rintro e w1 ⟨rfl, m, rfl⟩
  have hS1 := (HS.out.drew m).took hE.hP hk
  have gX := grown_trans (grown_below (b_drewN HB.out m) (some P)) (grown_set _ P 1 (.int .i64 ((k : Int) + 1)))
  have kX := (Below.heap_setCell (W.drewN m) ⟨P, 1, none⟩ (.int .i64 ((k : Int) + 1)) w.heap.size n2).trans K1.out
  have sX : ((W.drewN m).setCell ⟨P, 1, none⟩ (.int .i64 ((k : Int) + 1))).heap.size = w.heap.size + 1 := by rw [sz_set]; exact hsz
  obtain ⟨V, hV⟩ : ∃ V, (W.drewN m).setCell ⟨P, 1, none⟩ (.int .i64 ((k : Int) + 1)) = V := ⟨_, rfl⟩
  rw [hV] at hS1 gX kX sX
  have hA1 := HA.out V hS1
  have HV := Lib.hid hV
  have HA1 := Lib.hid hA1
  have GX := Lib.hid gX
  have KX := Lib.hid kX
  clear hA1 hV gX kX hS1 HA
  go_upto_region 14 with fail
  rw [HV.out]
  go_wp2_with fail
  refine HA1.out.mono ?_
  intro e w3 he
  obtain ⟨p0, p1, p2, p3, p4, p5, pm, pc, k', b', rfl, hS3, hg3, hres⟩ := parts_of he
  obtain ⟨W4, hW4⟩ : ∃ W4, w3.alloc (.cells #[.int .i64 p0, .int .i64 p1, .int .i64 p2, .string p3, .string p4, .slice p5 pm pc] 26 (0, 0)) = W4 := ⟨_, rfl⟩
  have hb4 : Below w3.heap.size w3 W4 := by rw [← hW4]; exact b_new _ _
  have hn4 : W4.heap[w3.heap.size]? = some (.cells #[.int .i64 p0, .int .i64 p1, .int .i64 p2, .string p3, .string p4, .slice p5 pm pc] 26 (0, 0)) := by rw [← hW4]; exact World.alloc_heap_new _ _
  have hp := pass_c hE (hS3.keep hb4) ⟨#[41]⟩ (by simp)
  have hF := fun w5 hg5 hp5 => paren_fin (pc := pc) HB0.out lP GX.out sX KX.out hS3 hg3 hres hb4 hn4 w5 hg5 hp5
  have HP := Lib.hid hp
  have HF := Lib.hid hF
  have HW4 := Lib.hid hW4
  clear hp hF hW4 hn4 hb4 hres hg3 hS3 he HV HA1 c1 f1 l1 h0 h1 h2 hf
  go_upto_region 15 with fail
  rw [HW4.out]
  go_wp2_with fail
  refine HP.out.mono ?_
  rintro e w5 ⟨rfl, hg5, hp5⟩
  obtain ⟨kR, kX5, hend⟩ := HF.out w5 hg5 hp5
  obtain ⟨y1, z1⟩ := cells_of kR
  obtain ⟨y2, z2⟩ := cells_of kX5
  have HEnd := Lib.hid hend
  clear hend hp5 hg5
  go_wp2_with fail
  refine bodyPost_ret (v := .agg #[.int .i64 p0, .int .i64 p1, .int .i64 p2, .string p3, .string p4, .slice p5 pm pc]) (by simp [results, Tryz.results25, go_sem, y1]) rfl HEnd.out

end
end Go.Proofs.YtjjchbafobcofaaGreatDoor.Cl
namespace Go.Proofs.YtjjchbafobcofaaGreatDoor.Cl
open Go.RowKit
open LexM ExM Kit ExL ExP PsM PsT NmC Ps PsR
set_option linter.unusedVariables false

theorem quo_head (l : List UInt8) (p : Nat) : ∀ ts, tokens l p = .ok ts → ∀ t ∈ ts, t.kind = 3 → ∃ r, t.s = 34 :: r := by
  refine tokens_ind (M := fun l p r => ∀ ts, r = .ok ts → ∀ t ∈ ts, t.kind = 3 → ∃ r, t.s = 34 :: r) ?_ ?_ ?_ ?_ l.length l p (Nat.le_refl _)
  · intro p ts h t ht; injection h with h; subst h; cases ht
  · intro r p ih ts h t ht; exact ih ts h t ht
  · intro c r p e _ _ ts h; cases h
  · intro c r p T hc hT ih ts h t ht hk
    cases hr : tokens ((c :: r).drop T.len) (p + T.len) with
    | bad q e => rw [hr] at h; cases h
    | ok us =>
      rw [hr] at h
      injection h with h; subst h
      rcases List.mem_cons.1 ht with rfl | ht
      · have hl := first_len hT
        obtain ⟨k, hkk⟩ : ∃ k, T.len = k + 1 := ⟨T.len - 1, by omega⟩
        have hs : (mk T p (c :: r)).s = c :: r.take k := by show (c :: r).take T.len = _; rw [hkk, List.take_succ_cons]
        have hk' : T.kind = 3 := hk
        rw [first_cons] at hT
        split at hT
        · obtain ⟨_, h2, _⟩ := numT_tok hT; rw [h2] at hk'; cases hk'
        · split at hT
          · obtain ⟨h2, _⟩ := wordT_tok hT; rw [h2] at hk'; cases hk'
          · split at hT
            · rename_i hq; exact ⟨_, by rw [hs, hq]⟩
            · unfold sgnT at hT
              split at hT
              · injection hT with hT; subst hT; cases hk'
              · split at hT
                · injection hT with hT; subst hT; cases hk'
                · cases hT
      · exact ih us hr t ht hk

/-- What next tells is a token's own text, but for quotes. -/
theorem next_isNext {L : List Tk} (hq : ∀ t ∈ L, t.kind = 3 → ∃ r, t.s = 34 :: r) (s : List UInt8) (hs : s ≠ []) (h34 : s.head? ≠ some 34) : (nextS L = s) ↔ isNext s L = true := by
  cases L with
  | nil => constructor <;> intro h
           · exact absurd h.symm hs
           · cases h
  | cons t r =>
    have e1 : nextS (t :: r) = if t.kind = 3 then [] else t.s := rfl
    have e2 : isNext s (t :: r) = decide (t.s = s) := rfl
    rw [e1, e2]
    by_cases h3 : t.kind = 3
    · obtain ⟨u, hu⟩ := hq t List.mem_cons_self h3
      rw [if_pos h3]
      constructor <;> intro h
      · exact absurd h.symm hs
      · have h := of_decide_eq_true h
        rw [← h, hu] at h34
        exact absurd rfl h34
    · rw [if_neg h3]
      simp
/-- A formula in brackets is a list of one. -/
theorem oP_list {L : List Tk} {o : Out} (hq : ∀ t ∈ L, t.kind = 3 → ∃ r, t.s = 34 :: r) (h : Ev (.form 0) L o) (hsh : PsTot.Shape L.length o) (hsub : ∀ x r, o = .ok [x] r → ∀ t ∈ r, t ∈ L) : Ev (.list 1 []) L (oP o) := by
  rcases hsh with ⟨x, r, rfl, hr⟩ | ⟨r, rfl⟩
  · have hq' : ∀ t ∈ r, t.kind = 3 → ∃ u, t.s = 34 :: u := fun t ht => hq t (hsub x r rfl t ht)
    have e := next_isNext hq' [41] (by simp) (by simp)
    by_cases hn : nextS r = [41]
    · have e1 : oP (.ok [x] r) = .ok [x] r.tail := by show (if nextS r = [41] then Out.ok [x] r.tail else .bad r) = _; rw [if_pos hn]
      rw [e1]
      exact ev_list_last (acc := []) h (by simp) (e.1 hn)
    · have e1 : oP (.ok [x] r) = .bad r := by show (if nextS r = [41] then Out.ok [x] r.tail else .bad r) = _; rw [if_neg hn]
      rw [e1]
      exact ev_list_last_bad h (by simp) (by cases hb : isNext [41] r with | true => exact absurd (e.2 hb) hn | false => rfl)
  · exact ev_list_bad h
end Go.Proofs.YtjjchbafobcofaaGreatDoor.Cl
