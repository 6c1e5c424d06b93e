/- The reference's climber: its looks at the next token, and how close an operator binds. The reference's climber: its state, pass, closeness. The reference's ahead: what it does with one token. The reference's ahead: a token that is a value or a name, and what is neither. The reference's ahead: a name; the end. The reference's ahead: a word or a sign that begins no formula. The reference's ahead: a word or a sign that begins no formula. -/
import Derived.Test.YtjjchbafobcofaaGreatDoorPsRun
import Derived.Test.YtjjchbafobcofaaGreatDoorPsLex
import Derived.BigQuiet
namespace Go.Proofs.YtjjchbafobcofaaGreatDoor.Cl
open Go.RowKit
open LexM ExM Kit ExL ExP PsM PsT NmC Ps PsR
set_option linter.unusedVariables false

theorem drew_drew (w : World) (a b : Nat) : (w.drewN a).drewN b = w.drewN (a + b) := by simp [World.drewN, Nat.add_assoc]
/-- The climber's box. -/
def CAt (w : World) (P : Nat) (A : Option Addr) (n c k : Nat) (lost : Bool) : Prop :=
  w.cell? ⟨P, 0, none⟩ = some (.slice A n c) ∧ w.cell? ⟨P, 1, none⟩ = some (.int .i64 (k : Int)) ∧ w.cell? ⟨P, 2, none⟩ = some (.bool lost)

set_option maxHeartbeats 2000000 in
theorem next_end (P : Nat) (A : Option Addr) (n c : Nat) (b : Bool) (w : World) (hn : n ≤ 160) (h : CAt w P A n c n b) :
    Calls Tryz.prog 27 #[.pointer (some ⟨P, 0, none⟩)] w fun e w' => e = .returned (.string ⟨#[]⟩) ∧ ∃ m, w' = w.drewN m := by
  obtain ⟨h0, h1, h2⟩ := h
  have i0 : decide ((n : Int) < (n : Int)) = false := decide_eq_false (by omega)
  have i1 : ¬ (n : Int) < (n : Int) := by omega
  go_enter Tryz.func27, Tryz.ntmps27
  go_wp2_with fail
  go_quiet (fail)
  go_wp2_with fail
  go_ret
  exact ⟨rfl, _, rfl⟩

set_option maxHeartbeats 2000000 in
theorem next_quote (P g : Nat) (n c k : Nat) (b : Bool) (w : World) (hn : n ≤ 160) (hk : k < n) (h : CAt w P (some ⟨g, 0, none⟩) n c k b) (hc : w.cell? ⟨g, k * 6, none⟩ = some (.int .i64 3)) :
    Calls Tryz.prog 27 #[.pointer (some ⟨P, 0, none⟩)] w fun e w' => e = .returned (.string ⟨#[]⟩) ∧ ∃ m, w' = w.drewN m := by
  obtain ⟨h0, h1, h2⟩ := h
  have i0 : decide ((k : Int) < (n : Int)) = true := decide_eq_true (by omega)
  have i1 : (k : Int) < (n : Int) := by omega
  have i2 : (0 : Int) ≤ (k : Int) := by omega
  have i3 : ((k : Int)).toNat = k := by omega
  go_enter Tryz.func27, Tryz.ntmps27
  go_wp2_with fail
  go_quiet (fail)
  go_wp2_with fail
  go_ret
  exact ⟨rfl, _, rfl⟩

set_option maxHeartbeats 2000000 in
theorem next_some (P g : Nat) (n c k : Nat) (b : Bool) (kd : Int) (t : ByteArray) (w : World) (hn : n ≤ 160) (hk : k < n) (h : CAt w P (some ⟨g, 0, none⟩) n c k b) (hc : w.cell? ⟨g, k * 6, none⟩ = some (.int .i64 kd)) (hkd : kd ≠ 3) (ht : w.cell? ⟨g, k * 6 + 2, none⟩ = some (.string t)) :
    Calls Tryz.prog 27 #[.pointer (some ⟨P, 0, none⟩)] w fun e w' => e = .returned (.string t) ∧ ∃ m, w' = w.drewN m := by
  obtain ⟨h0, h1, h2⟩ := h
  have i0 : decide ((k : Int) < (n : Int)) = true := decide_eq_true (by omega)
  have i1 : (k : Int) < (n : Int) := by omega
  have i2 : (0 : Int) ≤ (k : Int) := by omega
  have i3 : ((k : Int)).toNat = k := by omega
  have e1 : (kd == 3) = false := beq_eq_false_iff_ne.2 hkd
  have e2 : (kd != 3) = true := by unfold bne; rw [e1]; rfl
  go_enter Tryz.func27, Tryz.ntmps27
  go_wp2_with fail
  go_quiet (fail)
  go_wp2_with fail
  go_quiet (fail)
  go_wp2_with fail
  go_ret
  exact ⟨rfl, _, drew_drew _ _ _⟩
end Go.Proofs.YtjjchbafobcofaaGreatDoor.Cl
namespace Go.Proofs.YtjjchbafobcofaaGreatDoor.Cl
open Go.RowKit
open LexM ExM Kit ExL ExP PsM PsT NmC Ps PsR
set_option linter.unusedVariables false

/-- The next token's text: a quote has none. -/
def nextS : List Tk → List UInt8
  | [] => []
  | t :: _ => if t.kind = 3 then [] else t.s
structure CEnv (w0 : World) (P : Nat) (A : Option Addr) (L : List Tk) : Prop where
  len : L.length ≤ 160
  cells : ∀ (i : Nat) (h : i < L.length), ∃ g, A = some ⟨g, 0, none⟩ ∧ ∀ j, j < 6 → w0.cell? ⟨g, i * 6 + j, none⟩ = (tkC L[i])[j]?
  hP : w0.heap.size ≤ P
structure CSt (w0 : World) (P : Nat) (A : Option Addr) (c : Nat) (L : List Tk) (w : World) (k : Nat) (b : Bool) : Prop where
  prs : w.heap[P]? = some (.cells #[.slice A L.length c, .int .i64 (k : Int), .bool b] 39 (0, 0))
  below : Below w0.heap.size w0 w
  le : k ≤ L.length
section
variable {w0 : World} {P : Nat} {A : Option Addr} {c : Nat} {L : List Tk} {w w' : World} {k : Nat} {b : Bool}
theorem CSt.at (h : CSt w0 P A c L w k b) : CAt w P A L.length c k b := by
  have := h.prs
  exact ⟨by simp [World.cell?, this], by simp [World.cell?, this], by simp [World.cell?, this]⟩
theorem CSt.lt (h : CSt w0 P A c L w k b) : P < w.heap.size := (Array.getElem?_eq_some_iff.1 h.prs).1
theorem CSt.frozen (h : CSt w0 P A c L w k b) (o : Nat) : w.frozen? ⟨P, o, none⟩ = false := by
  have := h.prs
  simp [World.frozen?, this]
theorem CSt.keep (h : CSt w0 P A c L w k b) (hb : Below w.heap.size w w') : CSt w0 P A c L w' k b :=
  ⟨(hb.block P h.lt).trans h.prs, h.below.trans (hb.mono h.below.size), h.le⟩
theorem CSt.drew (h : CSt w0 P A c L w k b) (m : Nat) : CSt w0 P A c L (w.drewN m) k b := h.keep (b_drewN (Below.refl _ _) m)
theorem CSt.took (h : CSt w0 P A c L w k b) (hP : w0.heap.size ≤ P) (hk : k < L.length) : CSt w0 P A c L (w.setCell ⟨P, 1, none⟩ (.int .i64 ((k : Int) + 1))) (k + 1) b := by
  refine ⟨?_, h.below.setCell (p := ⟨P, 1, none⟩) hP _, hk⟩
  have := h.prs
  simp [World.setCell, Array.getElem?_modify, this]
theorem CSt.lose (h : CSt w0 P A c L w k b) (hP : w0.heap.size ≤ P) : CSt w0 P A c L (w.setCell ⟨P, 2, none⟩ (.bool true)) k true := by
  refine ⟨?_, h.below.setCell (p := ⟨P, 2, none⟩) hP _, h.le⟩
  have := h.prs
  simp [World.setCell, Array.getElem?_modify, this]
theorem CSt.step (h : CSt w0 P A c L w k b) (hg : w.grownBy w' (some P)) (hP : w0.heap.size ≤ P) {k' : Nat} {b' : Bool} (hp : w'.heap[P]? = some (.cells #[.slice A L.length c, .int .i64 (k' : Int), .bool b'] 39 (0, 0))) (hk : k' ≤ L.length) : CSt w0 P A c L w' k' b' :=
  ⟨hp, h.below.grown hg h.below.size (fun j e => by injection e with e; omega), hk⟩
theorem ctok_cells (hE : CEnv w0 P A L) (hS : CSt w0 P A c L w k b) (hk : k < L.length) : ∃ g, A = some ⟨g, 0, none⟩ ∧ w.cell? ⟨g, k * 6, none⟩ = some (.int .i64 L[k].kind) ∧ w.cell? ⟨g, k * 6 + 1, none⟩ = some (.int .i64 L[k].pos) ∧ w.cell? ⟨g, k * 6 + 2, none⟩ = some (.string ⟨L[k].s.toArray⟩) ∧ w.cell? ⟨g, k * 6 + 3, none⟩ = some (.int .i64 L[k].vk) ∧ w.cell? ⟨g, k * 6 + 4, none⟩ = some (.int .i64 L[k].n) ∧ w.cell? ⟨g, k * 6 + 5, none⟩ = some (.string ⟨L[k].t.toArray⟩) := by
  obtain ⟨g, hA, hc⟩ := hE.cells k hk
  have key : ∀ j v, j < 6 → (tkC L[k])[j]? = some v → w.cell? ⟨g, k * 6 + j, none⟩ = some v := fun j v hj hv => by
    have h1 := (hc j hj).trans hv
    exact (hS.below.cell (p := ⟨g, k * 6 + j, none⟩) (cell_ltP h1)).trans h1
  exact ⟨g, hA, key 0 _ (by decide) rfl, key 1 _ (by decide) rfl, key 2 _ (by decide) rfl, key 3 _ (by decide) rfl, key 4 _ (by decide) rfl, key 5 _ (by decide) rfl⟩

theorem next_c (hE : CEnv w0 P A L) (hS : CSt w0 P A c L w k b) :
    Calls Tryz.prog 27 #[.pointer (some ⟨P, 0, none⟩)] w fun e w' => e = .returned (.string ⟨(nextS (L.drop k)).toArray⟩) ∧ ∃ m, w' = w.drewN m := by
  cases hd : L.drop k with
  | nil =>
    obtain rfl := drop_nil hd hS.le
    exact next_end P A L.length c b w hE.len hS.at
  | cons t r =>
    obtain ⟨hk, rfl, rfl⟩ := drop_cons hd
    obtain ⟨g, rfl, c0, c1, c2, c3, c4, c5⟩ := ctok_cells hE hS hk
    have en : nextS (L[k] :: L.drop (k + 1)) = if L[k].kind = 3 then [] else L[k].s := rfl
    rw [en]
    by_cases h3 : L[k].kind = 3
    · rw [if_pos h3]
      rw [h3] at c0
      exact next_quote P g L.length c k b w hE.len hk hS.at c0
    · rw [if_neg h3]
      exact next_some P g L.length c k b _ _ w hE.len hk hS.at c0 h3 c2
end

/-! ### pass -/
set_option maxHeartbeats 2000000 in
theorem pass_lost (P : Nat) (A : Option Addr) (n c k : Nat) (s : ByteArray) (w : World) (h : CAt w P A n c k true) (hf : w.frozen? ⟨P, 2, none⟩ = false) :
    Calls Tryz.prog 44 #[.pointer (some ⟨P, 0, none⟩), .string s] w fun e w' => e = .returned (.tuple #[]) ∧ ∃ m, w' = (w.drewN m).setCell ⟨P, 2, none⟩ (.bool true) := by
  obtain ⟨h0, h1, h2⟩ := h
  go_enter Tryz.func44, Tryz.ntmps44
  go_wp2_with fail
  go_end0
  exact ⟨rfl, 0, rfl⟩

set_option maxHeartbeats 2000000 in
theorem pass_ok (P : Nat) (A : Option Addr) (n c k : Nat) (s t : ByteArray) (w : World) (hn : n ≤ 160) (hk : k < n) (h : CAt w P A n c k false) (hf : w.frozen? ⟨P, 1, none⟩ = false) (hst : (t.toList == s.toList) = true)
    (hN : Calls Tryz.prog 27 #[.pointer (some ⟨P, 0, none⟩)] w fun e w' => e = .returned (.string t) ∧ ∃ m, w' = w.drewN m) :
    Calls Tryz.prog 44 #[.pointer (some ⟨P, 0, none⟩), .string s] w fun e w' => e = .returned (.tuple #[]) ∧ ∃ m, w' = (w.drewN m).setCell ⟨P, 1, none⟩ (.int .i64 ((k : Int) + 1)) := by
  have HN := Lib.hid hN
  obtain ⟨h0, h1, h2⟩ := h
  clear hN
  have hw : IntKind.i64.wrap ((k : Int) + 1) = (k : Int) + 1 := IntWalk.i64_in _ (by omega)
  go_enter Tryz.func44, Tryz.ntmps44
  go_wp2_with fail
  refine HN.out.mono ?_
  rintro e w1 ⟨rfl, m, rfl⟩
  go_wp2_with fail
  refine bodyPost_ret (results_none rfl _ _ _) rfl ?_
  exact ⟨rfl, _, rfl⟩

set_option maxHeartbeats 2000000 in
theorem pass_bad (P : Nat) (A : Option Addr) (n c k : Nat) (s t : ByteArray) (w : World) (h : CAt w P A n c k false) (hf : w.frozen? ⟨P, 2, none⟩ = false) (hst : (t.toList == s.toList) = false)
    (hN : Calls Tryz.prog 27 #[.pointer (some ⟨P, 0, none⟩)] w fun e w' => e = .returned (.string t) ∧ ∃ m, w' = w.drewN m) :
    Calls Tryz.prog 44 #[.pointer (some ⟨P, 0, none⟩), .string s] w fun e w' => e = .returned (.tuple #[]) ∧ ∃ m, w' = (w.drewN m).setCell ⟨P, 2, none⟩ (.bool true) := by
  have HN := Lib.hid hN
  obtain ⟨h0, h1, h2⟩ := h
  clear hN
  go_enter Tryz.func44, Tryz.ntmps44
  go_wp2_with fail
  refine HN.out.mono ?_
  rintro e w1 ⟨rfl, m, rfl⟩
  go_wp2_with fail
  go_end0
  exact ⟨rfl, _, rfl⟩

section
variable {w0 : World} {P : Nat} {A : Option Addr} {c : Nat} {L : List Tk} {w w' : World} {k : Nat} {b : Bool}
/-- pass, whatever comes. -/
theorem pass_c (hE : CEnv w0 P A L) (hS : CSt w0 P A c L w k b) (s : ByteArray) (hs : s.data.toList ≠ []) :
    Calls Tryz.prog 44 #[.pointer (some ⟨P, 0, none⟩), .string s] w fun e w' => e = .returned (.tuple #[]) ∧ w.grownBy w' (some P) ∧
      if b = false ∧ nextS (L.drop k) = s.data.toList then k < L.length ∧ CSt w0 P A c L w' (k + 1) false else CSt w0 P A c L w' k true := by
  cases b with
  | true =>
    refine (pass_lost P A L.length c k s w hS.at (hS.frozen 2)).mono ?_
    rintro e w' ⟨rfl, m, rfl⟩
    exact ⟨rfl, grown_trans (grown_below (b_drewN (Below.refl _ _) m) _) (grown_set _ _ _ _), by rw [if_neg (by simp)]; exact (hS.drew m).lose hE.hP⟩
  | false =>
    by_cases hn : nextS (L.drop k) = s.data.toList
    · have hk : k < L.length := by
        rcases Nat.lt_or_ge k L.length with g | g
        · exact g
        · rw [List.drop_eq_nil_of_le g] at hn; exact absurd hn.symm hs
      refine (pass_ok P A L.length c k s _ w hE.len hk hS.at (hS.frozen 1) (beq_bytes _ _ true (decide_eq_true hn)) (next_c hE hS)).mono ?_
      rintro e w' ⟨rfl, m, rfl⟩
      exact ⟨rfl, grown_trans (grown_below (b_drewN (Below.refl _ _) m) _) (grown_set _ _ _ _), by rw [if_pos ⟨rfl, hn⟩]; exact ⟨hk, (hS.drew m).took hE.hP hk⟩⟩
    · refine (pass_bad P A L.length c k s _ w hS.at (hS.frozen 2) (beq_bytes _ _ false (decide_eq_false hn)) (next_c hE hS)).mono ?_
      rintro e w' ⟨rfl, m, rfl⟩
      exact ⟨rfl, grown_trans (grown_below (b_drewN (Below.refl _ _) m) _) (grown_set _ _ _ _), by rw [if_neg (fun e => hn e.2)]; exact (hS.drew m).lose hE.hP⟩
end

/-! ### closeness -/
theorem close5 (w : World) : Calls Tryz.prog 26 #[.int .i64 5] w fun e w' => e = .returned (.tuple #[.int .i64 ((rwP 5).2.1 + 1), .string ⟨(rwP 5).1.toArray⟩]) ∧ w = w' := by
  go_enter Tryz.func26, Tryz.ntmps26
  go_wp2
  go_ret2
  exact ⟨rfl, rfl⟩
theorem close6 (w : World) : Calls Tryz.prog 26 #[.int .i64 6] w fun e w' => e = .returned (.tuple #[.int .i64 ((rwP 6).2.1 + 1), .string ⟨(rwP 6).1.toArray⟩]) ∧ w = w' := by
  go_enter Tryz.func26, Tryz.ntmps26
  go_wp2
  go_ret2
  exact ⟨rfl, rfl⟩
theorem close7 (w : World) : Calls Tryz.prog 26 #[.int .i64 7] w fun e w' => e = .returned (.tuple #[.int .i64 ((rwP 7).2.1 + 1), .string ⟨(rwP 7).1.toArray⟩]) ∧ w = w' := by
  go_enter Tryz.func26, Tryz.ntmps26
  go_wp2
  go_ret2
  exact ⟨rfl, rfl⟩
theorem close8 (w : World) : Calls Tryz.prog 26 #[.int .i64 8] w fun e w' => e = .returned (.tuple #[.int .i64 ((rwP 8).2.1 + 1), .string ⟨(rwP 8).1.toArray⟩]) ∧ w = w' := by
  go_enter Tryz.func26, Tryz.ntmps26
  go_wp2
  go_ret2
  exact ⟨rfl, rfl⟩
theorem close9 (w : World) : Calls Tryz.prog 26 #[.int .i64 9] w fun e w' => e = .returned (.tuple #[.int .i64 ((rwP 9).2.1 + 1), .string ⟨(rwP 9).1.toArray⟩]) ∧ w = w' := by
  go_enter Tryz.func26, Tryz.ntmps26
  go_wp2
  go_ret2
  exact ⟨rfl, rfl⟩
theorem close10 (w : World) : Calls Tryz.prog 26 #[.int .i64 10] w fun e w' => e = .returned (.tuple #[.int .i64 ((rwP 10).2.1 + 1), .string ⟨(rwP 10).1.toArray⟩]) ∧ w = w' := by
  go_enter Tryz.func26, Tryz.ntmps26
  go_wp2
  go_ret2
  exact ⟨rfl, rfl⟩
theorem close11 (w : World) : Calls Tryz.prog 26 #[.int .i64 11] w fun e w' => e = .returned (.tuple #[.int .i64 ((rwP 11).2.1 + 1), .string ⟨(rwP 11).1.toArray⟩]) ∧ w = w' := by
  go_enter Tryz.func26, Tryz.ntmps26
  go_wp2
  go_ret2
  exact ⟨rfl, rfl⟩
theorem close12 (w : World) : Calls Tryz.prog 26 #[.int .i64 12] w fun e w' => e = .returned (.tuple #[.int .i64 ((rwP 12).2.1 + 1), .string ⟨(rwP 12).1.toArray⟩]) ∧ w = w' := by
  go_enter Tryz.func26, Tryz.ntmps26
  go_wp2
  go_ret2
  exact ⟨rfl, rfl⟩
theorem close13 (w : World) : Calls Tryz.prog 26 #[.int .i64 13] w fun e w' => e = .returned (.tuple #[.int .i64 ((rwP 13).2.1 + 1), .string ⟨(rwP 13).1.toArray⟩]) ∧ w = w' := by
  go_enter Tryz.func26, Tryz.ntmps26
  go_wp2
  go_ret2
  exact ⟨rfl, rfl⟩
theorem close14 (w : World) : Calls Tryz.prog 26 #[.int .i64 14] w fun e w' => e = .returned (.tuple #[.int .i64 ((rwP 14).2.1 + 1), .string ⟨(rwP 14).1.toArray⟩]) ∧ w = w' := by
  go_enter Tryz.func26, Tryz.ntmps26
  go_wp2
  go_ret2
  exact ⟨rfl, rfl⟩
theorem close15 (w : World) : Calls Tryz.prog 26 #[.int .i64 15] w fun e w' => e = .returned (.tuple #[.int .i64 ((rwP 15).2.1 + 1), .string ⟨(rwP 15).1.toArray⟩]) ∧ w = w' := by
  go_enter Tryz.func26, Tryz.ntmps26
  go_wp2
  go_ret2
  exact ⟨rfl, rfl⟩
theorem close16 (w : World) : Calls Tryz.prog 26 #[.int .i64 16] w fun e w' => e = .returned (.tuple #[.int .i64 ((rwP 16).2.1 + 1), .string ⟨(rwP 16).1.toArray⟩]) ∧ w = w' := by
  go_enter Tryz.func26, Tryz.ntmps26
  go_wp2
  go_ret2
  exact ⟨rfl, rfl⟩
theorem close_any (op : Nat) (h1 : 5 ≤ op) (h2 : op ≤ 16) (w : World) : Calls Tryz.prog 26 #[.int .i64 (op : Int)] w fun e w' => e = .returned (.tuple #[.int .i64 ((rwP op).2.1 + 1), .string ⟨(rwP op).1.toArray⟩]) ∧ w = w' := by
  have h : op = 5 ∨ op = 6 ∨ op = 7 ∨ op = 8 ∨ op = 9 ∨ op = 10 ∨ op = 11 ∨ op = 12 ∨ op = 13 ∨ op = 14 ∨ op = 15 ∨ op = 16 := by omega
  rcases h with rfl | rfl | rfl | rfl | rfl | rfl | rfl | rfl | rfl | rfl | rfl | rfl
  · exact close5 w
  · exact close6 w
  · exact close7 w
  · exact close8 w
  · exact close9 w
  · exact close10 w
  · exact close11 w
  · exact close12 w
  · exact close13 w
  · exact close14 w
  · exact close15 w
  · exact close16 w
end Go.Proofs.YtjjchbafobcofaaGreatDoor.Cl
namespace Go.Proofs.YtjjchbafobcofaaGreatDoor.Cl
open Go.RowKit
open LexM ExM Kit ExL ExP PsM PsT NmC Ps PsR
set_option linter.unusedVariables false

/-- A struct of a formula's six cells. -/
def Any6 (v : Value) : Prop := ∃ (o k n : Int) (s t : ByteArray) (A : Option Addr) (m c : Nat), v = .agg #[.int .i64 o, .int .i64 k, .int .i64 n, .string s, .string t, .slice A m c]
def OkC (w0 : World) (P : Nat) (A : Option Addr) (c : Nat) (L : List Tk) (w : World) (k : Nat) (x : Ex) (r : List Tk) (e : Ending) (w' : World) : Prop :=
  ∃ (d : Nd) (B : Option Addr) (m cp k' : Nat), e = .returned (.agg #[.int .i64 d.op, .int .i64 d.k, .int .i64 d.n, .string d.s, .string d.nm, .slice B m cp]) ∧ IsP (fun b => w.heap.size ≤ b) w' x d B m ∧ r = L.drop k' ∧ k ≤ k' ∧ CSt w0 P A c L w' k' false ∧ w.grownBy w' (some P)
def BadC (w0 : World) (P : Nat) (A : Option Addr) (c : Nat) (L : List Tk) (w : World) (r : List Tk) (e : Ending) (w' : World) : Prop :=
  ∃ (v : Value) (k' : Nat), e = .returned v ∧ Any6 v ∧ r = L.drop k' ∧ CSt w0 P A c L w' k' true ∧ w.grownBy w' (some P)
def EndsC (w0 : World) (P : Nat) (A : Option Addr) (c : Nat) (L : List Tk) (w : World) (k : Nat) (o : Out) (e : Ending) (w' : World) : Prop :=
  match o with
  | .ok [x] r => OkC w0 P A c L w k x r e w'
  | .bad r => BadC w0 P A c L w r e w'
  | _ => False

section
variable {w0 : World} {P : Nat} {A : Option Addr} {c : Nat} {L : List Tk} {w : World} {k : Nat}

theorem next_lt (h : nextS (L.drop k) ≠ []) : k < L.length := by
  rcases Nat.lt_or_ge k L.length with g | g
  · exact g
  · rw [List.drop_eq_nil_of_le g] at h; exact absurd rfl h
theorem fin6 {X : World} {k' : Nat} {b' : Bool} (hS1 : CSt w0 P A c L X k' b') (hg : w.grownBy X (some P)) (hb0 : w0.heap.size ≤ w.heap.size) (lP : P < w.heap.size) (u0 u1 u2 u3 u4 u5 : Value) :
    CSt w0 P A c L (S6 X w.heap.size u0 u1 u2 u3 u4 u5) k' b' ∧ w.grownBy (S6 X w.heap.size u0 u1 u2 u3 u4 u5) (some P) := by
  have g := s6_grown X w.heap.size u0 u1 u2 u3 u4 u5
  refine ⟨⟨(s6_heap X _ P (by omega) _ _ _ _ _ _).trans hS1.prs, hS1.below.grown g hS1.below.size (fun j e => by injection e with e; omega), hS1.le⟩, g.os.trans hg.os, g.tape.trans hg.tape, g.output.trans hg.output, Nat.le_trans hg.size g.size, fun j hj hne => (s6_heap X _ j (by omega) _ _ _ _ _ _).trans (hg.block j hj hne)⟩

set_option maxRecDepth 100000 in
set_option maxHeartbeats 4000000 in
theorem ahead_lost (hE : CEnv w0 P A L) (hS : CSt w0 P A c L w k true) :
    Calls Tryz.prog 25 #[.pointer (some ⟨P, 0, none⟩)] w (BadC w0 P A c L w (L.drop k)) := by
  obtain ⟨W, hW⟩ : ∃ W, w.alloc (.cells #[.int .i64 0, .int .i64 0, .int .i64 0, .string ⟨#[]⟩, .string ⟨#[]⟩, .slice none 0 0] 26) = W := ⟨_, rfl⟩
  have hb : Below w.heap.size w W := by rw [← hW]; exact b_new _ _
  have hsz : W.heap.size = w.heap.size + 1 := by rw [← hW]; simp
  have k1 : W.heap[w.heap.size]? = some (.cells #[.int .i64 0, .int .i64 0, .int .i64 0, .string ⟨#[]⟩, .string ⟨#[]⟩, .slice none 0 0] 26 (0, 0)) := by rw [← hW]; exact World.alloc_heap_new w _
  have hSW := hS.keep hb
  obtain ⟨h0, h1, h2⟩ := hSW.at
  obtain ⟨c1, f1⟩ := cells_of k1
  have l1 := (Array.getElem?_eq_some_iff.1 k1).1
  have HW := Lib.hid hW
  have HS := Lib.hid hSW
  have HB := Lib.hid hb
  have HB0 := Lib.hid hS.below.size
  have n1 : P ≠ w.heap.size := by have := hS.lt; omega
  have n2 : w.heap.size ≠ P := fun e => n1 e.symm
  have lP := hS.lt
  clear hW hSW hb hS k1
  go_enter Tryz.func25, Tryz.ntmps25
  go_upto_region 1 with fail
  rw [HW.out]
  go_wp2_with fail
  refine bodyPost_ret (v := .agg #[.int .i64 0, .int .i64 0, .int .i64 0, .string ⟨#[]⟩, .string ⟨#[]⟩, .slice none 0 0]) (by simp [results, Tryz.results25, go_sem, c1]) rfl ?_
  obtain ⟨q1, q2⟩ := fin6 HS.out (grown_below HB.out (some P)) HB0.out lP (.int .i64 0) (.int .i64 0) (.int .i64 0) (.string ⟨#[]⟩) (.string ⟨#[]⟩) (.slice none 0 0)
  exact ⟨_, k, rfl, ⟨0, 0, 0, ⟨#[]⟩, ⟨#[]⟩, none, 0, 0, rfl⟩, rfl, q1, q2⟩

set_option maxRecDepth 100000 in
set_option maxHeartbeats 4000000 in
theorem ahead_true (hE : CEnv w0 P A L) (hS : CSt w0 P A c L w k false) (hn : nextS (L.drop k) = trueB) :
    Calls Tryz.prog 25 #[.pointer (some ⟨P, 0, none⟩)] w fun e w' => e = .returned (.agg #[.int .i64 1, .int .i64 2, .int .i64 1, .string ⟨#[]⟩, .string ⟨#[]⟩, .slice none 0 0]) ∧ CSt w0 P A c L w' (k + 1) false ∧ w.grownBy w' (some P) := by
  obtain ⟨W, hW⟩ : ∃ W, w.alloc (.cells #[.int .i64 0, .int .i64 0, .int .i64 0, .string ⟨#[]⟩, .string ⟨#[]⟩, .slice none 0 0] 26) = W := ⟨_, rfl⟩
  have hb : Below w.heap.size w W := by rw [← hW]; exact b_new _ _
  have hsz : W.heap.size = w.heap.size + 1 := by rw [← hW]; simp
  have k1 : W.heap[w.heap.size]? = some (.cells #[.int .i64 0, .int .i64 0, .int .i64 0, .string ⟨#[]⟩, .string ⟨#[]⟩, .slice none 0 0] 26 (0, 0)) := by rw [← hW]; exact World.alloc_heap_new w _
  have hSW := hS.keep hb
  have hN := next_c hE hSW
  rw [hn] at hN
  have hk : k < L.length := next_lt (by rw [hn]; decide)
  have hw : IntKind.i64.wrap ((k : Int) + 1) = (k : Int) + 1 := IntWalk.i64_in _ (by have := hS.le; have := hE.len; omega)
  obtain ⟨h0, h1, h2⟩ := hSW.at
  have hf := hSW.frozen 1
  obtain ⟨c1, f1⟩ := cells_of k1
  have l1 := (Array.getElem?_eq_some_iff.1 k1).1
  have HW := Lib.hid hW
  have HS := Lib.hid hSW
  have HB := Lib.hid hb
  have HB0 := Lib.hid hS.below.size
  have n1 : P ≠ w.heap.size := by have := hS.lt; omega
  have n2 : w.heap.size ≠ P := fun e => n1 e.symm
  have HN := Lib.hid hN
  have lP := hS.lt
  clear hW hSW hb hS k1 hN
  go_enter Tryz.func25, Tryz.ntmps25
  go_upto_region 1 with fail
  rw [HW.out]
  go_wp2_with fail
  refine HN.out.mono ?_
  rintro e w1 ⟨rfl, m, rfl⟩
  unfold trueB
  go_wp2_with fail
  refine bodyPost_ret (v := .agg #[.int .i64 1, .int .i64 2, .int .i64 1, .string ⟨#[]⟩, .string ⟨#[]⟩, .slice none 0 0]) (by simp [results, Tryz.results25, go_sem, c1]) rfl ?_
  exact ⟨rfl, fin6 ((HS.out.drew m).took hE.hP hk) (grown_trans (grown_below (b_drewN HB.out m) (some P)) (grown_set _ _ _ _)) HB0.out lP (.int .i64 1) (.int .i64 2) (.int .i64 1) (.string ⟨#[]⟩) (.string ⟨#[]⟩) (.slice none 0 0)⟩
set_option maxRecDepth 100000 in
set_option maxHeartbeats 4000000 in
theorem ahead_false (hE : CEnv w0 P A L) (hS : CSt w0 P A c L w k false) (hn : nextS (L.drop k) = falseB) :
    Calls Tryz.prog 25 #[.pointer (some ⟨P, 0, none⟩)] w fun e w' => e = .returned (.agg #[.int .i64 1, .int .i64 2, .int .i64 0, .string ⟨#[]⟩, .string ⟨#[]⟩, .slice none 0 0]) ∧ CSt w0 P A c L w' (k + 1) false ∧ w.grownBy w' (some P) := by
  obtain ⟨W, hW⟩ : ∃ W, w.alloc (.cells #[.int .i64 0, .int .i64 0, .int .i64 0, .string ⟨#[]⟩, .string ⟨#[]⟩, .slice none 0 0] 26) = W := ⟨_, rfl⟩
  have hb : Below w.heap.size w W := by rw [← hW]; exact b_new _ _
  have hsz : W.heap.size = w.heap.size + 1 := by rw [← hW]; simp
  have k1 : W.heap[w.heap.size]? = some (.cells #[.int .i64 0, .int .i64 0, .int .i64 0, .string ⟨#[]⟩, .string ⟨#[]⟩, .slice none 0 0] 26 (0, 0)) := by rw [← hW]; exact World.alloc_heap_new w _
  have hSW := hS.keep hb
  have hN := next_c hE hSW
  rw [hn] at hN
  have hk : k < L.length := next_lt (by rw [hn]; decide)
  have hw : IntKind.i64.wrap ((k : Int) + 1) = (k : Int) + 1 := IntWalk.i64_in _ (by have := hS.le; have := hE.len; omega)
  obtain ⟨h0, h1, h2⟩ := hSW.at
  have hf := hSW.frozen 1
  obtain ⟨c1, f1⟩ := cells_of k1
  have l1 := (Array.getElem?_eq_some_iff.1 k1).1
  have HW := Lib.hid hW
  have HS := Lib.hid hSW
  have HB := Lib.hid hb
  have HB0 := Lib.hid hS.below.size
  have n1 : P ≠ w.heap.size := by have := hS.lt; omega
  have n2 : w.heap.size ≠ P := fun e => n1 e.symm
  have HN := Lib.hid hN
  have lP := hS.lt
  clear hW hSW hb hS k1 hN
  go_enter Tryz.func25, Tryz.ntmps25
  go_upto_region 1 with fail
  rw [HW.out]
  go_wp2_with fail
  refine HN.out.mono ?_
  rintro e w1 ⟨rfl, m, rfl⟩
  unfold falseB
  go_wp2_with fail
  refine bodyPost_ret (v := .agg #[.int .i64 1, .int .i64 2, .int .i64 0, .string ⟨#[]⟩, .string ⟨#[]⟩, .slice none 0 0]) (by simp [results, Tryz.results25, go_sem, c1]) rfl ?_
  exact ⟨rfl, fin6 ((HS.out.drew m).took hE.hP hk) (grown_trans (grown_below (b_drewN HB.out m) (some P)) (grown_set _ _ _ _)) HB0.out lP (.int .i64 1) (.int .i64 2) (.int .i64 0) (.string ⟨#[]⟩) (.string ⟨#[]⟩) (.slice none 0 0)⟩
end
end Go.Proofs.YtjjchbafobcofaaGreatDoor.Cl
namespace Go.Proofs.YtjjchbafobcofaaGreatDoor.Cl
open Go.RowKit
open LexM ExM Kit ExL ExP PsM PsT NmC Ps PsR
set_option linter.unusedVariables false
/-- None of the words that ahead looks for. -/
structure Plain (S : ByteArray) : Prop where
  e0 : (S.toList == [45]) = false
  e1 : (S.toList == [110, 111, 116]) = false
  e2 : (S.toList == [40]) = false
  e3 : (S.toList == [105, 102]) = false
  e4 : (S.toList == [108, 101, 110]) = false
  e5 : (S.toList == [116, 114, 117, 101]) = false
  e6 : (S.toList == [102, 97, 108, 115, 101]) = false

section
variable {w0 : World} {P : Nat} {A : Option Addr} {c : Nat} {L : List Tk} {w : World} {k : Nat}

set_option maxRecDepth 100000 in
set_option maxHeartbeats 4000000 in
theorem ahead_const (hE : CEnv w0 P A L) (hS : CSt w0 P A c L w k false) (S : ByteArray) (hn : (⟨(nextS (L.drop k)).toArray⟩ : ByteArray) = S) (hpl : Plain S) (hk : k < L.length) (kd : Int) (hkd : L[k].kind = kd) (h13 : kd = 1 ∨ kd = 3) :
    Calls Tryz.prog 25 #[.pointer (some ⟨P, 0, none⟩)] w fun e w' => e = .returned (.agg #[.int .i64 1, .int .i64 L[k].vk, .int .i64 L[k].n, .string ⟨L[k].t.toArray⟩, .string ⟨#[]⟩, .slice none 0 0]) ∧ CSt w0 P A c L w' (k + 1) false ∧ w.grownBy w' (some P) := by
  obtain ⟨W, hW⟩ : ∃ W, w.alloc (.cells #[.int .i64 0, .int .i64 0, .int .i64 0, .string ⟨#[]⟩, .string ⟨#[]⟩, .slice none 0 0] 26) = W := ⟨_, rfl⟩
  have hb : Below w.heap.size w W := by rw [← hW]; exact b_new _ _
  have hsz : W.heap.size = w.heap.size + 1 := by rw [← hW]; simp
  have k1 : W.heap[w.heap.size]? = some (.cells #[.int .i64 0, .int .i64 0, .int .i64 0, .string ⟨#[]⟩, .string ⟨#[]⟩, .slice none 0 0] 26 (0, 0)) := by rw [← hW]; exact World.alloc_heap_new w _
  have hSW := hS.keep hb
  have hN := next_c hE hSW
  rw [hn] at hN
  have hw : IntKind.i64.wrap ((k : Int) + 1) = (k : Int) + 1 := IntWalk.i64_in _ (by have := hS.le; have := hE.len; omega)
  obtain ⟨h0, h1, h2⟩ := hSW.at
  obtain ⟨e0, e1, e2, e3, e4, e5, e6⟩ := hpl
  obtain ⟨g, rfl, d0, d1, d2, d3, d4, d5⟩ := ctok_cells hE hSW hk
  rw [hkd] at d0
  have gl : g < W.heap.size := cell_ltP d0
  obtain ⟨vk, hvk⟩ : ∃ vk, L[k].vk = vk := ⟨_, rfl⟩
  obtain ⟨nn, hnn⟩ : ∃ nn, L[k].n = nn := ⟨_, rfl⟩
  obtain ⟨tt, htt⟩ : ∃ tt, (⟨L[k].t.toArray⟩ : ByteArray) = tt := ⟨_, rfl⟩
  obtain ⟨ss, hss⟩ : ∃ ss, (⟨L[k].s.toArray⟩ : ByteArray) = ss := ⟨_, rfl⟩
  rw [hvk, hnn, htt]
  rw [hvk] at d3; rw [hnn] at d4; rw [htt] at d5; rw [hss] at d2
  have q0 := fun n o => ((b_new (W.drewN n) o).cell (p := ⟨g, k * 6, none⟩) gl).trans d0
  have q1 := fun n o => ((b_new (W.drewN n) o).cell (p := ⟨g, k * 6 + 1, none⟩) gl).trans d1
  have q2 := fun n o => ((b_new (W.drewN n) o).cell (p := ⟨g, k * 6 + 2, none⟩) gl).trans d2
  have q3 := fun n o => ((b_new (W.drewN n) o).cell (p := ⟨g, k * 6 + 3, none⟩) gl).trans d3
  have q4 := fun n o => ((b_new (W.drewN n) o).cell (p := ⟨g, k * 6 + 4, none⟩) gl).trans d4
  have q5 := fun n o => ((b_new (W.drewN n) o).cell (p := ⟨g, k * 6 + 5, none⟩) gl).trans d5
  have z0 := fun n o => ((b_new (W.drewN n) o).cell (p := ⟨P, 0, none⟩) (cell_ltP h0)).trans h0
  have z1 := fun n o => ((b_new (W.drewN n) o).cell (p := ⟨P, 1, none⟩) (cell_ltP h1)).trans h1
  have i0 : decide ((k : Int) < (L.length : Int)) = true := decide_eq_true (by omega)
  have i1 : (k : Int) < (L.length : Int) := by omega
  have i2 : (0 : Int) ≤ (k : Int) := by omega
  have i3 : ((k : Int)).toNat = k := by omega
  have i4 := hE.len
  have hf := hSW.frozen 1
  obtain ⟨c1, f1⟩ := cells_of k1
  have l1 := (Array.getElem?_eq_some_iff.1 k1).1
  have HW := Lib.hid hW
  have HS := Lib.hid hSW
  have HB := Lib.hid hb
  have HB0 := Lib.hid hS.below.size
  have n1 : P ≠ w.heap.size := by have := hS.lt; omega
  have n2 : w.heap.size ≠ P := fun e => n1 e.symm
  have HN := Lib.hid hN
  have lP := hS.lt
  have K1 := Lib.hid k1
  clear hW hSW hb hS k1 hN
  go_enter Tryz.func25, Tryz.ntmps25
  go_upto_region 1 with fail
  rw [HW.out]
  go_wp2_with fail
  refine HN.out.mono ?_
  rintro e w1 ⟨rfl, m, rfl⟩
  rcases h13 with rfl | rfl
  · go_wp2_with fail
    go_quiet (fail)
    go_wp2_with fail
    go_region
    go_wp2_with fail
    have kX := (Below.heap_setCell (W.drewN (m + nq + 1)) ⟨P, 1, none⟩ (.int .i64 ((k : Int) + 1)) w.heap.size n2).trans K1.out
    have kS := set6_box kX (.int .i64 1) (.int .i64 vk) (.int .i64 nn) (.string tt) (.string ⟨#[]⟩) (.slice none 0 0)
    have lS := (Array.getElem?_eq_some_iff.1 kS).1
    obtain ⟨r1, r2⟩ := fin6 ((HS.out.drew (m + nq + 1)).took hE.hP hk) (grown_trans (grown_below (b_drewN HB.out _) (some P)) (grown_set _ _ _ _)) HB0.out lP (.int .i64 1) (.int .i64 vk) (.int .i64 nn) (.string tt) (.string ⟨#[]⟩) (.slice none 0 0)
    generalize hY : World.alloc _ _ = Y
    have kY : Y.heap[w.heap.size]? = some (.cells #[.int .i64 1, .int .i64 vk, .int .i64 nn, .string tt, .string ⟨#[]⟩, .slice none 0 0] 26 (0, 0)) := by rw [← hY]; exact ((b_new _ _).block _ lS).trans kS
    have r3 : CSt w0 P (some ⟨g, 0, none⟩) c L Y (k + 1) false ∧ w.grownBy Y (some P) := by rw [← hY]; exact ⟨r1.keep (b_new _ _), grown_trans r2 (grown_below (b_new _ _) _)⟩
    obtain ⟨y1, _⟩ := cells_of kY
    clear hY
    refine bodyPost_ret (v := .agg #[.int .i64 1, .int .i64 vk, .int .i64 nn, .string tt, .string ⟨#[]⟩, .slice none 0 0]) (by simp [results, Tryz.results25, go_sem, y1]) rfl ?_
    exact ⟨rfl, r3⟩
  · go_wp2_with fail
    go_quiet (fail)
    go_wp2_with fail
    go_region
    go_wp2_with fail
    have kX := (Below.heap_setCell (W.drewN (m + nq + 1)) ⟨P, 1, none⟩ (.int .i64 ((k : Int) + 1)) w.heap.size n2).trans K1.out
    have kS := set6_box kX (.int .i64 1) (.int .i64 vk) (.int .i64 nn) (.string tt) (.string ⟨#[]⟩) (.slice none 0 0)
    have lS := (Array.getElem?_eq_some_iff.1 kS).1
    obtain ⟨r1, r2⟩ := fin6 ((HS.out.drew (m + nq + 1)).took hE.hP hk) (grown_trans (grown_below (b_drewN HB.out _) (some P)) (grown_set _ _ _ _)) HB0.out lP (.int .i64 1) (.int .i64 vk) (.int .i64 nn) (.string tt) (.string ⟨#[]⟩) (.slice none 0 0)
    generalize hY : World.alloc _ _ = Y
    have kY : Y.heap[w.heap.size]? = some (.cells #[.int .i64 1, .int .i64 vk, .int .i64 nn, .string tt, .string ⟨#[]⟩, .slice none 0 0] 26 (0, 0)) := by rw [← hY]; exact ((b_new _ _).block _ lS).trans kS
    have r3 : CSt w0 P (some ⟨g, 0, none⟩) c L Y (k + 1) false ∧ w.grownBy Y (some P) := by rw [← hY]; exact ⟨r1.keep (b_new _ _), grown_trans r2 (grown_below (b_new _ _) _)⟩
    obtain ⟨y1, _⟩ := cells_of kY
    clear hY
    refine bodyPost_ret (v := .agg #[.int .i64 1, .int .i64 vk, .int .i64 nn, .string tt, .string ⟨#[]⟩, .slice none 0 0]) (by simp [results, Tryz.results25, go_sem, y1]) rfl ?_
    exact ⟨rfl, r3⟩
end
end Go.Proofs.YtjjchbafobcofaaGreatDoor.Cl
namespace Go.Proofs.YtjjchbafobcofaaGreatDoor.Cl
open Go.RowKit
open LexM ExM Kit ExL ExP PsM PsT NmC Ps PsR
set_option linter.unusedVariables false
section
variable {w0 : World} {P : Nat} {A : Option Addr} {c : Nat} {L : List Tk} {w : World} {k : Nat}

set_option maxRecDepth 100000 in
set_option maxHeartbeats 4000000 in
theorem ahead_name (hE : CEnv w0 P A L) (hS : CSt w0 P A c L w k false) (S : ByteArray) (hn : (⟨(nextS (L.drop k)).toArray⟩ : ByteArray) = S) (hpl : Plain S) (hk : k < L.length) (hkd : L[k].kind = 2) (hkey : ∀ W, Calls Tryz.prog 46 #[.string ⟨L[k].s.toArray⟩] W fun e w' => e = .returned (.bool false) ∧ Below W.heap.size W w') :
    Calls Tryz.prog 25 #[.pointer (some ⟨P, 0, none⟩)] w fun e w' => e = .returned (.agg #[.int .i64 2, .int .i64 0, .int .i64 0, .string ⟨#[]⟩, .string ⟨L[k].s.toArray⟩, .slice none 0 0]) ∧ CSt w0 P A c L w' (k + 1) false ∧ w.grownBy w' (some P) := by
  obtain ⟨W, hW⟩ : ∃ W, w.alloc (.cells #[.int .i64 0, .int .i64 0, .int .i64 0, .string ⟨#[]⟩, .string ⟨#[]⟩, .slice none 0 0] 26) = W := ⟨_, rfl⟩
  have hb : Below w.heap.size w W := by rw [← hW]; exact b_new _ _
  have hsz : W.heap.size = w.heap.size + 1 := by rw [← hW]; simp
  have k1 : W.heap[w.heap.size]? = some (.cells #[.int .i64 0, .int .i64 0, .int .i64 0, .string ⟨#[]⟩, .string ⟨#[]⟩, .slice none 0 0] 26 (0, 0)) := by rw [← hW]; exact World.alloc_heap_new w _
  have hSW := hS.keep hb
  have hN := next_c hE hSW
  rw [hn] at hN
  have hw : IntKind.i64.wrap ((k : Int) + 1) = (k : Int) + 1 := IntWalk.i64_in _ (by have := hS.le; have := hE.len; omega)
  obtain ⟨h0, h1, h2⟩ := hSW.at
  obtain ⟨e0, e1, e2, e3, e4, e5, e6⟩ := hpl
  obtain ⟨g, rfl, d0, d1, d2, d3, d4, d5⟩ := ctok_cells hE hSW hk
  rw [hkd] at d0
  have gl : g < W.heap.size := cell_ltP d0
  obtain ⟨vk, hvk⟩ : ∃ vk, L[k].vk = vk := ⟨_, rfl⟩
  obtain ⟨nn, hnn⟩ : ∃ nn, L[k].n = nn := ⟨_, rfl⟩
  obtain ⟨tt, htt⟩ : ∃ tt, (⟨L[k].t.toArray⟩ : ByteArray) = tt := ⟨_, rfl⟩
  obtain ⟨ss, hss⟩ : ∃ ss, (⟨L[k].s.toArray⟩ : ByteArray) = ss := ⟨_, rfl⟩
  rw [hss] at hkey ⊢
  have HKey := Lib.hid hkey
  clear hkey
  rw [hvk] at d3; rw [hnn] at d4; rw [htt] at d5; rw [hss] at d2
  have q0 := fun n o => ((b_new (W.drewN n) o).cell (p := ⟨g, k * 6, none⟩) gl).trans d0
  have q1 := fun n o => ((b_new (W.drewN n) o).cell (p := ⟨g, k * 6 + 1, none⟩) gl).trans d1
  have q2 := fun n o => ((b_new (W.drewN n) o).cell (p := ⟨g, k * 6 + 2, none⟩) gl).trans d2
  have q3 := fun n o => ((b_new (W.drewN n) o).cell (p := ⟨g, k * 6 + 3, none⟩) gl).trans d3
  have q4 := fun n o => ((b_new (W.drewN n) o).cell (p := ⟨g, k * 6 + 4, none⟩) gl).trans d4
  have q5 := fun n o => ((b_new (W.drewN n) o).cell (p := ⟨g, k * 6 + 5, none⟩) gl).trans d5
  have z0 := fun n o => ((b_new (W.drewN n) o).cell (p := ⟨P, 0, none⟩) (cell_ltP h0)).trans h0
  have z1 := fun n o => ((b_new (W.drewN n) o).cell (p := ⟨P, 1, none⟩) (cell_ltP h1)).trans h1
  have i0 : decide ((k : Int) < (L.length : Int)) = true := decide_eq_true (by omega)
  have i1 : (k : Int) < (L.length : Int) := by omega
  have i2 : (0 : Int) ≤ (k : Int) := by omega
  have i3 : ((k : Int)).toNat = k := by omega
  have i4 := hE.len
  have hf := hSW.frozen 1
  obtain ⟨c1, f1⟩ := cells_of k1
  have l1 := (Array.getElem?_eq_some_iff.1 k1).1
  have HW := Lib.hid hW
  have HS := Lib.hid hSW
  have HB := Lib.hid hb
  have HB0 := Lib.hid hS.below.size
  have n1 : P ≠ w.heap.size := by have := hS.lt; omega
  have n2 : w.heap.size ≠ P := fun e => n1 e.symm
  have HN := Lib.hid hN
  have lP := hS.lt
  have K1 := Lib.hid k1
  clear hW hSW hb hS k1 hN
  go_enter Tryz.func25, Tryz.ntmps25
  go_upto_region 1 with fail
  rw [HW.out]
  go_wp2_with fail
  refine HN.out.mono ?_
  rintro e w1 ⟨rfl, m, rfl⟩
  go_wp2_with fail
  go_quiet (fail)
  go_wp2_with fail
  go_region
  go_wp2_with fail
  have kX := (Below.heap_setCell (W.drewN (m + nq + 1)) ⟨P, 1, none⟩ (.int .i64 ((k : Int) + 1)) w.heap.size n2).trans K1.out
  have lX := (Array.getElem?_eq_some_iff.1 kX).1
  have tX := World.alloc_heap_new ((W.drewN (m + nq + 1)).setCell ⟨P, 1, none⟩ (.int .i64 ((k : Int) + 1))) (.cells #[.int .i64 2, .int .i64 (L[k].pos : Int), .string ss, .int .i64 vk, .int .i64 nn, .string tt] 42 (0, 0))
  rw [show ((W.drewN (m + nq + 1)).setCell ⟨P, 1, none⟩ (.int .i64 ((k : Int) + 1))).heap.size = w.heap.size + 1 by rw [sz_set]; exact hsz] at tX
  have rX := (HS.out.drew (m + nq + 1)).took hE.hP hk
  have gX := grown_trans (grown_below (b_drewN HB.out (m + nq + 1)) (some P)) (grown_set _ P 1 (.int .i64 ((k : Int) + 1)))
  generalize hY : World.alloc _ _ = V
  have kV : V.heap[w.heap.size]? = some (.cells #[.int .i64 0, .int .i64 0, .int .i64 0, .string ⟨#[]⟩, .string ⟨#[]⟩, .slice none 0 0] 26 (0, 0)) := by rw [← hY]; exact ((b_new _ _).block _ lX).trans kX
  have tV : V.heap[w.heap.size + 1]? = some (.cells #[.int .i64 2, .int .i64 (L[k].pos : Int), .string ss, .int .i64 vk, .int .i64 nn, .string tt] 42 (0, 0)) := by rw [← hY]; exact tX
  have rV : CSt w0 P (some ⟨g, 0, none⟩) c L V (k + 1) false ∧ w.grownBy V (some P) := by rw [← hY]; exact ⟨rX.keep (b_new _ _), grown_trans gX (grown_below (b_new _ _) _)⟩
  clear hY kX lX tX rX gX
  refine (HKey.out V).mono ?_
  rintro e w3 ⟨rfl, hb3⟩
  have k3 := (hb3.block _ (Array.getElem?_eq_some_iff.1 kV).1).trans kV
  have t3 := (hb3.block _ (Array.getElem?_eq_some_iff.1 tV).1).trans tV
  obtain ⟨y1, z2⟩ := cells_of k3
  obtain ⟨y3, z4⟩ := cells_of t3
  have l3 := (Array.getElem?_eq_some_iff.1 k3).1
  have RV := Lib.hid (And.intro (rV.1.keep hb3) (grown_trans rV.2 (grown_below hb3 (some P))))
  clear rV hb3 k3 t3 kV tV q0 q1 q2 q3 q4 q5 z0 z1
  go_wp2_with fail
  refine bodyPost_ret (v := .agg #[.int .i64 2, .int .i64 0, .int .i64 0, .string ⟨#[]⟩, .string ss, .slice none 0 0]) (by simp [results, Tryz.results25, go_sem, y1]) rfl ?_
  exact ⟨rfl, fin6 RV.out.1 RV.out.2 HB0.out lP (.int .i64 2) (.int .i64 0) (.int .i64 0) (.string ⟨#[]⟩) (.string ss) (.slice none 0 0)⟩

set_option maxRecDepth 100000 in
set_option maxHeartbeats 4000000 in
theorem ahead_end (hE : CEnv w0 P A L) (hS : CSt w0 P A c L w k false) (hk : k = L.length) :
    Calls Tryz.prog 25 #[.pointer (some ⟨P, 0, none⟩)] w (BadC w0 P A c L w (L.drop k)) := by
  obtain ⟨W, hW⟩ : ∃ W, w.alloc (.cells #[.int .i64 0, .int .i64 0, .int .i64 0, .string ⟨#[]⟩, .string ⟨#[]⟩, .slice none 0 0] 26) = W := ⟨_, rfl⟩
  have hb : Below w.heap.size w W := by rw [← hW]; exact b_new _ _
  have hsz : W.heap.size = w.heap.size + 1 := by rw [← hW]; simp
  have k1 : W.heap[w.heap.size]? = some (.cells #[.int .i64 0, .int .i64 0, .int .i64 0, .string ⟨#[]⟩, .string ⟨#[]⟩, .slice none 0 0] 26 (0, 0)) := by rw [← hW]; exact World.alloc_heap_new w _
  have hSW := hS.keep hb
  have hN := next_c hE hSW
  rw [show nextS (L.drop k) = [] by rw [List.drop_eq_nil_of_le (by omega)]; rfl] at hN
  have hw : IntKind.i64.wrap ((k : Int) + 1) = (k : Int) + 1 := IntWalk.i64_in _ (by have := hS.le; have := hE.len; omega)
  obtain ⟨h0, h1, h2⟩ := hSW.at
  have i0 : decide ((k : Int) < (L.length : Int)) = false := decide_eq_false (by omega)
  have i1 : ¬ (k : Int) < (L.length : Int) := by omega
  have hf2 := hSW.frozen 2
  have i4 := hE.len
  have hf := hSW.frozen 1
  obtain ⟨c1, f1⟩ := cells_of k1
  have l1 := (Array.getElem?_eq_some_iff.1 k1).1
  have HW := Lib.hid hW
  have HS := Lib.hid hSW
  have HB := Lib.hid hb
  have HB0 := Lib.hid hS.below.size
  have n1 : P ≠ w.heap.size := by have := hS.lt; omega
  have n2 : w.heap.size ≠ P := fun e => n1 e.symm
  have HN := Lib.hid hN
  have lP := hS.lt
  have K1 := Lib.hid k1
  clear hW hSW hb hS k1 hN
  go_enter Tryz.func25, Tryz.ntmps25
  go_upto_region 1 with fail
  rw [HW.out]
  go_wp2_with fail
  refine HN.out.mono ?_
  rintro e w1 ⟨rfl, m, rfl⟩
  go_wp2_with fail
  go_quiet (fail)
  go_wp2_with fail
  refine bodyPost_ret (v := .agg #[.int .i64 0, .int .i64 0, .int .i64 0, .string ⟨#[]⟩, .string ⟨#[]⟩, .slice none 0 0]) (by simp [results, Tryz.results25, go_sem, c1]) rfl ?_
  obtain ⟨q1, q2⟩ := fin6 ((HS.out.drew (m + nq)).lose hE.hP) (grown_trans (grown_below (b_drewN HB.out _) (some P)) (grown_set _ _ _ _)) HB0.out lP (.int .i64 0) (.int .i64 0) (.int .i64 0) (.string ⟨#[]⟩) (.string ⟨#[]⟩) (.slice none 0 0)
  exact ⟨_, k, rfl, ⟨0, 0, 0, ⟨#[]⟩, ⟨#[]⟩, none, 0, 0, rfl⟩, rfl, q1, q2⟩

end
end Go.Proofs.YtjjchbafobcofaaGreatDoor.Cl
namespace Go.Proofs.YtjjchbafobcofaaGreatDoor.Cl
open Go.RowKit
open LexM ExM Kit ExL ExP PsM PsT NmC Ps PsR
set_option linter.unusedVariables false
section
variable {w0 : World} {P : Nat} {A : Option Addr} {c : Nat} {L : List Tk} {w : World} {k : Nat}

theorem CSt.back {b : Bool} (h : CSt w0 P A c L w (k + 1) b) (hP : w0.heap.size ≤ P) : CSt w0 P A c L (w.setCell ⟨P, 1, none⟩ (.int .i64 (k : Int))) k b := by
  refine ⟨?_, h.below.setCell (p := ⟨P, 1, none⟩) hP _, by have := h.le; omega⟩
  have := h.prs
  simp [World.setCell, Array.getElem?_modify, this]

set_option maxRecDepth 100000 in
set_option maxHeartbeats 4000000 in
theorem ahead_none (hE : CEnv w0 P A L) (hS : CSt w0 P A c L w k false) (S : ByteArray) (hn : (⟨(nextS (L.drop k)).toArray⟩ : ByteArray) = S) (hpl : Plain S) (hk : k < L.length) (kd : Int) (hkd : L[k].kind = kd) (hk1 : kd ≠ 1) (hk2 : kd ≠ 2) (hk3 : kd ≠ 3) :
    Calls Tryz.prog 25 #[.pointer (some ⟨P, 0, none⟩)] w (BadC w0 P A c L w (L.drop k)) := by
  obtain ⟨W, hW⟩ : ∃ W, w.alloc (.cells #[.int .i64 0, .int .i64 0, .int .i64 0, .string ⟨#[]⟩, .string ⟨#[]⟩, .slice none 0 0] 26) = W := ⟨_, rfl⟩
  have hb : Below w.heap.size w W := by rw [← hW]; exact b_new _ _
  have hsz : W.heap.size = w.heap.size + 1 := by rw [← hW]; simp
  have k1 : W.heap[w.heap.size]? = some (.cells #[.int .i64 0, .int .i64 0, .int .i64 0, .string ⟨#[]⟩, .string ⟨#[]⟩, .slice none 0 0] 26 (0, 0)) := by rw [← hW]; exact World.alloc_heap_new w _
  have hSW := hS.keep hb
  have hN := next_c hE hSW
  rw [hn] at hN
  have hw : IntKind.i64.wrap ((k : Int) + 1) = (k : Int) + 1 := IntWalk.i64_in _ (by have := hS.le; have := hE.len; omega)
  obtain ⟨h0, h1, h2⟩ := hSW.at
  obtain ⟨e0, e1, e2, e3, e4, e5, e6⟩ := hpl
  obtain ⟨g, rfl, d0, d1, d2, d3, d4, d5⟩ := ctok_cells hE hSW hk
  rw [hkd] at d0
  have gl : g < W.heap.size := cell_ltP d0
  obtain ⟨vk, hvk⟩ : ∃ vk, L[k].vk = vk := ⟨_, rfl⟩
  obtain ⟨nn, hnn⟩ : ∃ nn, L[k].n = nn := ⟨_, rfl⟩
  obtain ⟨tt, htt⟩ : ∃ tt, (⟨L[k].t.toArray⟩ : ByteArray) = tt := ⟨_, rfl⟩
  obtain ⟨ss, hss⟩ : ∃ ss, (⟨L[k].s.toArray⟩ : ByteArray) = ss := ⟨_, rfl⟩
  have m1 : (kd == 1) = false := beq_eq_false_iff_ne.2 hk1
  have m2 : (kd == 2) = false := beq_eq_false_iff_ne.2 hk2
  have m3 : (kd == 3) = false := beq_eq_false_iff_ne.2 hk3
  have hw2 : IntKind.i64.wrap ((k : Int) + 1 - 1) = (k : Int) := by rw [show (k : Int) + 1 - 1 = (k : Int) by omega]; exact IntWalk.i64_in _ (by have := hS.le; have := hE.len; omega)
  have hf2 := hSW.frozen 2
  rw [hvk] at d3; rw [hnn] at d4; rw [htt] at d5; rw [hss] at d2
  have q0 := fun n o => ((b_new (W.drewN n) o).cell (p := ⟨g, k * 6, none⟩) gl).trans d0
  have q1 := fun n o => ((b_new (W.drewN n) o).cell (p := ⟨g, k * 6 + 1, none⟩) gl).trans d1
  have q2 := fun n o => ((b_new (W.drewN n) o).cell (p := ⟨g, k * 6 + 2, none⟩) gl).trans d2
  have q3 := fun n o => ((b_new (W.drewN n) o).cell (p := ⟨g, k * 6 + 3, none⟩) gl).trans d3
  have q4 := fun n o => ((b_new (W.drewN n) o).cell (p := ⟨g, k * 6 + 4, none⟩) gl).trans d4
  have q5 := fun n o => ((b_new (W.drewN n) o).cell (p := ⟨g, k * 6 + 5, none⟩) gl).trans d5
  have z0 := fun n o => ((b_new (W.drewN n) o).cell (p := ⟨P, 0, none⟩) (cell_ltP h0)).trans h0
  have z1 := fun n o => ((b_new (W.drewN n) o).cell (p := ⟨P, 1, none⟩) (cell_ltP h1)).trans h1
  have i0 : decide ((k : Int) < (L.length : Int)) = true := decide_eq_true (by omega)
  have i1 : (k : Int) < (L.length : Int) := by omega
  have i2 : (0 : Int) ≤ (k : Int) := by omega
  have i3 : ((k : Int)).toNat = k := by omega
  have i4 := hE.len
  have hf := hSW.frozen 1
  obtain ⟨c1, f1⟩ := cells_of k1
  have l1 := (Array.getElem?_eq_some_iff.1 k1).1
  have HW := Lib.hid hW
  have HS := Lib.hid hSW
  have HB := Lib.hid hb
  have HB0 := Lib.hid hS.below.size
  have n1 : P ≠ w.heap.size := by have := hS.lt; omega
  have n2 : w.heap.size ≠ P := fun e => n1 e.symm
  have HN := Lib.hid hN
  have lP := hS.lt
  have K1 := Lib.hid k1
  clear hW hSW hb hS k1 hN
  go_enter Tryz.func25, Tryz.ntmps25
  go_upto_region 1 with fail
  rw [HW.out]
  go_wp2_with fail
  refine HN.out.mono ?_
  rintro e w1 ⟨rfl, m, rfl⟩
  go_wp2_with fail
  go_quiet (fail)
  go_wp2_with fail
  go_region
  go_wp2_with fail
  have kX := (Below.heap_setCell (((W.drewN (m + nq + 1)).setCell ⟨P, 1, none⟩ (.int .i64 ((k : Int) + 1))).setCell ⟨P, 1, none⟩ (.int .i64 (k : Int))) ⟨P, 2, none⟩ (.bool true) w.heap.size n2).trans ((Below.heap_setCell ((W.drewN (m + nq + 1)).setCell ⟨P, 1, none⟩ (.int .i64 ((k : Int) + 1))) ⟨P, 1, none⟩ (.int .i64 (k : Int)) w.heap.size n2).trans ((Below.heap_setCell (W.drewN (m + nq + 1)) ⟨P, 1, none⟩ (.int .i64 ((k : Int) + 1)) w.heap.size n2).trans K1.out))
  have kS := set6_box kX (.int .i64 0) (.int .i64 0) (.int .i64 0) (.string ⟨#[]⟩) (.string ⟨#[]⟩) (.slice none 0 0)
  have lS := (Array.getElem?_eq_some_iff.1 kS).1
  obtain ⟨r1, r2⟩ := fin6 ((((HS.out.drew (m + nq + 1)).took hE.hP hk).back hE.hP).lose hE.hP) (grown_trans (grown_trans (grown_trans (grown_below (b_drewN HB.out _) (some P)) (grown_set _ _ _ _)) (grown_set _ _ _ _)) (grown_set _ _ _ _)) HB0.out lP (.int .i64 0) (.int .i64 0) (.int .i64 0) (.string ⟨#[]⟩) (.string ⟨#[]⟩) (.slice none 0 0)
  generalize hY : World.alloc _ _ = Y
  have kY : Y.heap[w.heap.size]? = some (.cells #[.int .i64 0, .int .i64 0, .int .i64 0, .string ⟨#[]⟩, .string ⟨#[]⟩, .slice none 0 0] 26 (0, 0)) := by rw [← hY]; exact ((b_new _ _).block _ lS).trans kS
  have r3 : CSt w0 P (some ⟨g, 0, none⟩) c L Y k true ∧ w.grownBy Y (some P) := by rw [← hY]; exact ⟨r1.keep (b_new _ _), grown_trans r2 (grown_below (b_new _ _) _)⟩
  obtain ⟨y1, _⟩ := cells_of kY
  clear hY
  refine bodyPost_ret (v := .agg #[.int .i64 0, .int .i64 0, .int .i64 0, .string ⟨#[]⟩, .string ⟨#[]⟩, .slice none 0 0]) (by simp [results, Tryz.results25, go_sem, y1]) rfl ?_
  exact ⟨_, k, rfl, ⟨0, 0, 0, ⟨#[]⟩, ⟨#[]⟩, none, 0, 0, rfl⟩, rfl, r3⟩
end
end Go.Proofs.YtjjchbafobcofaaGreatDoor.Cl
namespace Go.Proofs.YtjjchbafobcofaaGreatDoor.Cl
open Go.RowKit
open LexM ExM Kit ExL ExP PsM PsT NmC Ps PsR
set_option linter.unusedVariables false
section
variable {w0 : World} {P : Nat} {A : Option Addr} {c : Nat} {L : List Tk} {w : World} {k : Nat}

set_option maxRecDepth 100000 in
set_option maxHeartbeats 4000000 in
theorem ahead_key (hE : CEnv w0 P A L) (hS : CSt w0 P A c L w k false) (S : ByteArray) (hn : (⟨(nextS (L.drop k)).toArray⟩ : ByteArray) = S) (hpl : Plain S) (hk : k < L.length) (hkd : L[k].kind = 2) (hkey : ∀ W, Calls Tryz.prog 46 #[.string ⟨L[k].s.toArray⟩] W fun e w' => e = .returned (.bool true) ∧ Below W.heap.size W w') :
    Calls Tryz.prog 25 #[.pointer (some ⟨P, 0, none⟩)] w (BadC w0 P A c L w (L.drop k)) := by
  obtain ⟨W, hW⟩ : ∃ W, w.alloc (.cells #[.int .i64 0, .int .i64 0, .int .i64 0, .string ⟨#[]⟩, .string ⟨#[]⟩, .slice none 0 0] 26) = W := ⟨_, rfl⟩
  have hb : Below w.heap.size w W := by rw [← hW]; exact b_new _ _
  have hsz : W.heap.size = w.heap.size + 1 := by rw [← hW]; simp
  have k1 : W.heap[w.heap.size]? = some (.cells #[.int .i64 0, .int .i64 0, .int .i64 0, .string ⟨#[]⟩, .string ⟨#[]⟩, .slice none 0 0] 26 (0, 0)) := by rw [← hW]; exact World.alloc_heap_new w _
  have hSW := hS.keep hb
  have hN := next_c hE hSW
  rw [hn] at hN
  have hw : IntKind.i64.wrap ((k : Int) + 1) = (k : Int) + 1 := IntWalk.i64_in _ (by have := hS.le; have := hE.len; omega)
  obtain ⟨h0, h1, h2⟩ := hSW.at
  obtain ⟨e0, e1, e2, e3, e4, e5, e6⟩ := hpl
  obtain ⟨g, rfl, d0, d1, d2, d3, d4, d5⟩ := ctok_cells hE hSW hk
  rw [hkd] at d0
  have gl : g < W.heap.size := cell_ltP d0
  obtain ⟨vk, hvk⟩ : ∃ vk, L[k].vk = vk := ⟨_, rfl⟩
  obtain ⟨nn, hnn⟩ : ∃ nn, L[k].n = nn := ⟨_, rfl⟩
  obtain ⟨tt, htt⟩ : ∃ tt, (⟨L[k].t.toArray⟩ : ByteArray) = tt := ⟨_, rfl⟩
  obtain ⟨ss, hss⟩ : ∃ ss, (⟨L[k].s.toArray⟩ : ByteArray) = ss := ⟨_, rfl⟩
  rw [hss] at hkey
  have hw2 : IntKind.i64.wrap ((k : Int) + 1 - 1) = (k : Int) := by rw [show (k : Int) + 1 - 1 = (k : Int) by omega]; exact IntWalk.i64_in _ (by have := hS.le; have := hE.len; omega)
  have HKey := Lib.hid hkey
  clear hkey
  rw [hvk] at d3; rw [hnn] at d4; rw [htt] at d5; rw [hss] at d2
  have q0 := fun n o => ((b_new (W.drewN n) o).cell (p := ⟨g, k * 6, none⟩) gl).trans d0
  have q1 := fun n o => ((b_new (W.drewN n) o).cell (p := ⟨g, k * 6 + 1, none⟩) gl).trans d1
  have q2 := fun n o => ((b_new (W.drewN n) o).cell (p := ⟨g, k * 6 + 2, none⟩) gl).trans d2
  have q3 := fun n o => ((b_new (W.drewN n) o).cell (p := ⟨g, k * 6 + 3, none⟩) gl).trans d3
  have q4 := fun n o => ((b_new (W.drewN n) o).cell (p := ⟨g, k * 6 + 4, none⟩) gl).trans d4
  have q5 := fun n o => ((b_new (W.drewN n) o).cell (p := ⟨g, k * 6 + 5, none⟩) gl).trans d5
  have z0 := fun n o => ((b_new (W.drewN n) o).cell (p := ⟨P, 0, none⟩) (cell_ltP h0)).trans h0
  have z1 := fun n o => ((b_new (W.drewN n) o).cell (p := ⟨P, 1, none⟩) (cell_ltP h1)).trans h1
  have i0 : decide ((k : Int) < (L.length : Int)) = true := decide_eq_true (by omega)
  have i1 : (k : Int) < (L.length : Int) := by omega
  have i2 : (0 : Int) ≤ (k : Int) := by omega
  have i3 : ((k : Int)).toNat = k := by omega
  have i4 := hE.len
  have hf := hSW.frozen 1
  obtain ⟨c1, f1⟩ := cells_of k1
  have l1 := (Array.getElem?_eq_some_iff.1 k1).1
  have HW := Lib.hid hW
  have HS := Lib.hid hSW
  have HB := Lib.hid hb
  have HB0 := Lib.hid hS.below.size
  have n1 : P ≠ w.heap.size := by have := hS.lt; omega
  have n2 : w.heap.size ≠ P := fun e => n1 e.symm
  have HN := Lib.hid hN
  have lP := hS.lt
  have K1 := Lib.hid k1
  clear hW hSW hb hS k1 hN
  go_enter Tryz.func25, Tryz.ntmps25
  go_upto_region 1 with fail
  rw [HW.out]
  go_wp2_with fail
  refine HN.out.mono ?_
  rintro e w1 ⟨rfl, m, rfl⟩
  go_wp2_with fail
  go_quiet (fail)
  go_wp2_with fail
  go_region
  go_wp2_with fail
  have kX := (Below.heap_setCell (W.drewN (m + nq + 1)) ⟨P, 1, none⟩ (.int .i64 ((k : Int) + 1)) w.heap.size n2).trans K1.out
  have lX := (Array.getElem?_eq_some_iff.1 kX).1
  have tX := World.alloc_heap_new ((W.drewN (m + nq + 1)).setCell ⟨P, 1, none⟩ (.int .i64 ((k : Int) + 1))) (.cells #[.int .i64 2, .int .i64 (L[k].pos : Int), .string ss, .int .i64 vk, .int .i64 nn, .string tt] 42 (0, 0))
  rw [show ((W.drewN (m + nq + 1)).setCell ⟨P, 1, none⟩ (.int .i64 ((k : Int) + 1))).heap.size = w.heap.size + 1 by rw [sz_set]; exact hsz] at tX
  have rX := (HS.out.drew (m + nq + 1)).took hE.hP hk
  have gX := grown_trans (grown_below (b_drewN HB.out (m + nq + 1)) (some P)) (grown_set _ P 1 (.int .i64 ((k : Int) + 1)))
  generalize hY : World.alloc _ _ = V
  have kV : V.heap[w.heap.size]? = some (.cells #[.int .i64 0, .int .i64 0, .int .i64 0, .string ⟨#[]⟩, .string ⟨#[]⟩, .slice none 0 0] 26 (0, 0)) := by rw [← hY]; exact ((b_new _ _).block _ lX).trans kX
  have tV : V.heap[w.heap.size + 1]? = some (.cells #[.int .i64 2, .int .i64 (L[k].pos : Int), .string ss, .int .i64 vk, .int .i64 nn, .string tt] 42 (0, 0)) := by rw [← hY]; exact tX
  have rV : CSt w0 P (some ⟨g, 0, none⟩) c L V (k + 1) false ∧ w.grownBy V (some P) := by rw [← hY]; exact ⟨rX.keep (b_new _ _), grown_trans gX (grown_below (b_new _ _) _)⟩
  clear hY kX lX tX rX gX
  refine (HKey.out V).mono ?_
  rintro e w3 ⟨rfl, hb3⟩
  have k3 := (hb3.block _ (Array.getElem?_eq_some_iff.1 kV).1).trans kV
  have t3 := (hb3.block _ (Array.getElem?_eq_some_iff.1 tV).1).trans tV
  obtain ⟨y1, z2⟩ := cells_of k3
  obtain ⟨y3, z4⟩ := cells_of t3
  have l3 := (Array.getElem?_eq_some_iff.1 k3).1
  have RV := Lib.hid (And.intro (rV.1.keep hb3) (grown_trans rV.2 (grown_below hb3 (some P))))
  obtain ⟨o0, o1, o2⟩ := RV.out.1.at
  have o3 := RV.out.1.frozen 1
  have o4 := RV.out.1.frozen 2
  have K3 := Lib.hid k3
  clear rV hb3 k3 t3 kV tV q0 q1 q2 q3 q4 q5 z0 z1
  go_wp2_with fail
  have kX := (Below.heap_setCell (w3.setCell ⟨P, 1, none⟩ (.int .i64 (k : Int))) ⟨P, 2, none⟩ (.bool true) w.heap.size n2).trans ((Below.heap_setCell w3 ⟨P, 1, none⟩ (.int .i64 (k : Int)) w.heap.size n2).trans K3.out)
  have kS := set6_box kX (.int .i64 0) (.int .i64 0) (.int .i64 0) (.string ⟨#[]⟩) (.string ⟨#[]⟩) (.slice none 0 0)
  obtain ⟨r1, r2⟩ := fin6 ((RV.out.1.back hE.hP).lose hE.hP) (grown_trans (grown_trans RV.out.2 (grown_set _ _ _ _)) (grown_set _ _ _ _)) HB0.out lP (.int .i64 0) (.int .i64 0) (.int .i64 0) (.string ⟨#[]⟩) (.string ⟨#[]⟩) (.slice none 0 0)
  refine bodyPost_ret (v := .agg #[.int .i64 0, .int .i64 0, .int .i64 0, .string ⟨#[]⟩, .string ⟨#[]⟩, .slice none 0 0]) (by simp [results, Tryz.results25, go_sem, y1]) rfl ?_
  exact ⟨_, k, rfl, ⟨0, 0, 0, ⟨#[]⟩, ⟨#[]⟩, none, 0, 0, rfl⟩, rfl, r1, r2⟩

end
end Go.Proofs.YtjjchbafobcofaaGreatDoor.Cl
