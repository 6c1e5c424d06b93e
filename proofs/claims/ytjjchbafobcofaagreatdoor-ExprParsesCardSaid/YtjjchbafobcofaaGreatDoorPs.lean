/- The parser's methods (package expr): what they stand on. -/
import Derived.Test.YtjjchbafobcofaaGreatDoorPsTok
import Derived.Test.YtjjchbafobcofaaGreatDoorEx
import Derived.Test.YtjjchbafobcofaaGreatDoorNmCopy
import Derived.Test.YtjjchbafobcofaaGreatDoorExCheck
namespace Go.Proofs.YtjjchbafobcofaaGreatDoor.Ps
open Go.RowKit
open LexM ExM Kit ExL ExP PsM PsT NmC
set_option linter.unusedVariables false

/-! ### Tokens in memory, and the parser's state -/
def tkC (x : Tk) : List Value := [.int .i64 x.kind, .int .i64 x.pos, .string ⟨x.s.toArray⟩, .int .i64 x.vk, .int .i64 x.n, .string ⟨x.t.toArray⟩]
def tkV (x : Tk) : Value := .agg #[.int .i64 x.kind, .int .i64 x.pos, .string ⟨x.s.toArray⟩, .int .i64 x.vk, .int .i64 x.n, .string ⟨x.t.toArray⟩]
def zX : List Value := [.int .i64 0, .int .i64 0, .int .i64 0, .string ⟨#[]⟩, .string ⟨#[]⟩, .slice none 0 0]
/-- What leaf answers of a token. -/
def LeafOut (t : Tk) (W : World) (e : Ending) (w' : World) : Prop :=
  ((∃ x, leafN t = some x ∧ e = .returned (.tuple #[.agg #[.int .i64 x.d.op, .int .i64 x.d.k, .int .i64 x.d.n, .string x.d.s, .string x.d.nm, .slice none 0 0], .bool true])) ∨
   (leafN t = none ∧ e = .returned (.tuple #[.agg #[.int .i64 0, .int .i64 0, .int .i64 0, .string ⟨#[]⟩, .string ⟨#[]⟩, .slice none 0 0], .bool false]))) ∧ Below W.heap.size W w'
structure Env (w0 : World) (P : Nat) (A : Option Addr) (L : List Tk) : Prop where
  len : L.length ≤ 160
  cells : ∀ (i : Nat) (h : i < L.length), ∃ g, A = some ⟨g, 0, none⟩ ∧ ∀ j, j < 6 → w0.cell? ⟨g, i * 6 + j, none⟩ = (tkC L[i])[j]?
  hP : w0.heap.size ≤ P
  tab : NotTab.Is Tryz.prog w0 "lychway/expr.notations" NotTab.rows
  leaf : ∀ t ∈ L, ∀ W, Below w0.heap.size w0 W → Calls Tryz.prog 79 #[tkV t] W (LeafOut t W)
structure St (w0 : World) (P : Nat) (A : Option Addr) (c : Nat) (L : List Tk) (w : World) (k : Nat) : Prop where
  prs : w.heap[P]? = some (.cells #[.slice A L.length c, .int .i64 (k : Int)] 50 (0, 0))
  below : Below w0.heap.size w0 w
  le : k ≤ L.length
section
variable {w0 : World} {P : Nat} {A : Option Addr} {c : Nat} {L : List Tk} {w w' : World} {k : Nat}
theorem St.at (h : St w0 P A c L w k) : PsT.At w P A L.length c k := by
  have := h.prs
  exact ⟨by simp [World.cell?, this], by simp [World.cell?, this]⟩
theorem St.lt (h : St w0 P A c L w k) : P < w.heap.size := (Array.getElem?_eq_some_iff.1 h.prs).1
theorem St.frozen (h : St w0 P A c L w k) (o : Nat) : w.frozen? ⟨P, o, none⟩ = false := by
  have := h.prs
  simp [World.frozen?, this]
theorem St.keep (h : St w0 P A c L w k) (hb : Below w.heap.size w w') : St w0 P A c L w' k :=
  ⟨(hb.block P h.lt).trans h.prs, h.below.trans (hb.mono h.below.size), h.le⟩
theorem St.drew (h : St w0 P A c L w k) (m : Nat) : St w0 P A c L (w.drewN m) k := h.keep (b_drewN (Below.refl _ _) m)
theorem St.took (h : St w0 P A c L w k) (hP : w0.heap.size ≤ P) (hk : k < L.length) : St w0 P A c L (w.setCell ⟨P, 1, none⟩ (.int .i64 ((k : Int) + 1))) (k + 1) := by
  refine ⟨?_, h.below.setCell (p := ⟨P, 1, none⟩) hP _, hk⟩
  have := h.prs
  simp [World.setCell, Array.getElem?_modify, this]
theorem St.step (h : St w0 P A c L w k) (hg : w.grownBy w' (some P)) (hP : w0.heap.size ≤ P) {k' : Nat} (hp : w'.heap[P]? = some (.cells #[.slice A L.length c, .int .i64 (k' : Int)] 50 (0, 0))) (hk : k' ≤ L.length) : St w0 P A c L w' k' :=
  ⟨hp, h.below.grown hg h.below.size (fun j e => by injection e with e; omega), hk⟩
theorem grown_below (hb : Below w.heap.size w w') (r : Option Nat) : w.grownBy w' r := ⟨hb.os, hb.tape, hb.output, hb.size, fun j hj _ => hb.block j hj⟩
theorem grown_set (w : World) (P o : Nat) (v : Value) : w.grownBy (w.setCell ⟨P, o, none⟩ v) (some P) :=
  ⟨rfl, rfl, rfl, by simp [World.setCell], fun j hj hne => Below.heap_setCell w ⟨P, o, none⟩ v j (fun e => hne (by rw [e]))⟩
theorem grown_trans {u v x : World} {r : Option Nat} (h : u.grownBy v r) (g : v.grownBy x r) : u.grownBy x r :=
  ⟨g.os.trans h.os, g.tape.trans h.tape, g.output.trans h.output, Nat.le_trans h.size g.size, fun j hj hne => (g.block j (Nat.lt_of_lt_of_le hj h.size) hne).trans (h.block j hj hne)⟩
theorem drop_cons {t : Tk} {r : List Tk} (h : L.drop k = t :: r) : ∃ hk : k < L.length, t = L[k] ∧ r = L.drop (k + 1) := by
  have hk : k < L.length := by
    rcases Nat.lt_or_ge k L.length with g | g
    · exact g
    · rw [List.drop_eq_nil_of_le g] at h; cases h
  rw [List.drop_eq_getElem_cons hk] at h
  injection h with h1 h2
  exact ⟨hk, h1.symm, h2.symm⟩
theorem drop_nil (h : L.drop k = []) (hk : k ≤ L.length) : k = L.length := by
  have := List.drop_eq_nil_iff.1 h; omega
/-- The next token's six cells. -/
theorem tok_cells (hE : Env w0 P A L) (hS : St w0 P A c L w k) (hk : k < L.length) : ∃ g, A = some ⟨g, 0, none⟩ ∧ w.cell? ⟨g, k * 6, none⟩ = some (.int .i64 L[k].kind) ∧ w.cell? ⟨g, k * 6 + 1, none⟩ = some (.int .i64 L[k].pos) ∧ w.cell? ⟨g, k * 6 + 2, none⟩ = some (.string ⟨L[k].s.toArray⟩) ∧ w.cell? ⟨g, k * 6 + 3, none⟩ = some (.int .i64 L[k].vk) ∧ w.cell? ⟨g, k * 6 + 4, none⟩ = some (.int .i64 L[k].n) ∧ w.cell? ⟨g, k * 6 + 5, none⟩ = some (.string ⟨L[k].t.toArray⟩) := by
  obtain ⟨g, hA, hc⟩ := hE.cells k hk
  have key : ∀ j v, j < 6 → (tkC L[k])[j]? = some v → w.cell? ⟨g, k * 6 + j, none⟩ = some v := fun j v hj hv => by
    have h1 := (hc j hj).trans hv
    exact (hS.below.cell (p := ⟨g, k * 6 + j, none⟩) (cell_ltP h1)).trans h1
  exact ⟨g, hA, key 0 _ (by decide) rfl, key 1 _ (by decide) rfl, key 2 _ (by decide) rfl, key 3 _ (by decide) rfl, key 4 _ (by decide) rfl, key 5 _ (by decide) rfl⟩
theorem beq_bytes (l : List UInt8) (s : ByteArray) (b : Bool) (h : decide (l = s.data.toList) = b) : ((ByteArray.mk l.toArray).toList == s.toList) = b := by
  rw [ByteArray.toList_eq, ByteArray.toList_eq, ← h]
  by_cases e : l = s.data.toList
  · rw [decide_eq_true e]; simp [e]
  · rw [decide_eq_false e]; simp [e]

theorem isNext_c (hE : Env w0 P A L) (hS : St w0 P A c L w k) (s : ByteArray) :
    Calls Tryz.prog 56 #[.pointer (some ⟨P, 0, none⟩), .string s] w fun e w' => e = .returned (.bool (isNext s.data.toList (L.drop k))) ∧ ∃ m, w' = w.drewN m := by
  cases hd : L.drop k with
  | nil =>
    obtain rfl := drop_nil hd hS.le
    exact isNext_end P A L.length c s w hE.len hS.at
  | cons t r =>
    obtain ⟨hk, rfl, rfl⟩ := drop_cons hd
    obtain ⟨g, rfl, c0, c1, c2, c3, c4, c5⟩ := tok_cells hE hS hk
    exact isNext_some P g L.length c k s _ w hE.len hk hS.at c2 _ (beq_bytes _ _ _ rfl)
/-- What is thrown at the next token. -/
def Wrong (v : Value) (r : List Tk) : Prop := (r = [] ∧ v = .iface 48 (.agg #[])) ∨ ∃ t r', r = t :: r' ∧ v = .iface 46 (tkV t)
theorem throw_c (hE : Env w0 P A L) (hS : St w0 P A c L w k) :
    Calls Tryz.prog 17 #[.pointer (some ⟨P, 0, none⟩)] w fun e w' => ∃ v, e = .panicked [{ v := v, recovered := false }] ∧ Wrong v (L.drop k) ∧ ∃ m, w' = w.drewN m := by
  cases hd : L.drop k with
  | nil =>
    obtain rfl := drop_nil hd hS.le
    refine (throw_end P A L.length c w hE.len hS.at).mono ?_
    rintro e w' ⟨rfl, hm⟩
    exact ⟨_, rfl, .inl ⟨rfl, rfl⟩, hm⟩
  | cons t r =>
    obtain ⟨hk, rfl, rfl⟩ := drop_cons hd
    obtain ⟨g, rfl, c0, c1, c2, c3, c4, c5⟩ := tok_cells hE hS hk
    refine (throw_some P g L.length c k _ _ _ _ _ _ w hE.len hk hS.at c0 c1 c2 c3 c4 c5).mono ?_
    rintro e w' ⟨rfl, hm⟩
    exact ⟨_, rfl, .inr ⟨_, _, rfl, rfl⟩, hm⟩
theorem expect_c (hE : Env w0 P A L) (hS : St w0 P A c L w k) (s : ByteArray) (hn : isNext s.data.toList (L.drop k) = true) :
    Calls Tryz.prog 78 #[.pointer (some ⟨P, 0, none⟩), .string s] w fun e w' => e = .returned (.tuple #[]) ∧ k < L.length ∧ St w0 P A c L w' (k + 1) ∧ w.grownBy w' (some P) := by
  cases hd : L.drop k with
  | nil => rw [hd] at hn; cases hn
  | cons t r =>
    obtain ⟨hk, rfl, rfl⟩ := drop_cons hd
    obtain ⟨g, rfl, c0, c1, c2, c3, c4, c5⟩ := tok_cells hE hS hk
    rw [hd] at hn
    refine (expect_ok P g L.length c k s _ w hE.len hk hS.at (hS.frozen 1) c2 (beq_bytes _ _ _ hn)).mono ?_
    rintro e w' ⟨rfl, m, rfl⟩
    exact ⟨rfl, hk, (hS.drew m).took hE.hP hk, grown_trans (grown_below (b_drewN (Below.refl _ _) m) _) (grown_set _ _ _ _)⟩
theorem expect_no (hE : Env w0 P A L) (hS : St w0 P A c L w k) (s : ByteArray) (hn : isNext s.data.toList (L.drop k) = false) :
    Calls Tryz.prog 78 #[.pointer (some ⟨P, 0, none⟩), .string s] w fun e w' => ∃ v, e = .panicked [{ v := v, recovered := false }] ∧ Wrong v (L.drop k) ∧ ∃ m, w' = w.drewN m := by
  cases hd : L.drop k with
  | nil =>
    obtain rfl := drop_nil hd hS.le
    refine (expect_end P A L.length c s w hE.len hS.at).mono ?_
    rintro e w' ⟨rfl, hm⟩
    exact ⟨_, rfl, .inl ⟨rfl, rfl⟩, hm⟩
  | cons t r =>
    obtain ⟨hk, rfl, rfl⟩ := drop_cons hd
    obtain ⟨g, rfl, c0, c1, c2, c3, c4, c5⟩ := tok_cells hE hS hk
    rw [hd] at hn
    refine (expect_bad P g L.length c k _ _ _ _ s _ _ w hE.len hk hS.at c0 c1 c2 c3 c4 c5 (beq_bytes _ _ _ hn)).mono ?_
    rintro e w' ⟨rfl, hm⟩
    exact ⟨_, rfl, .inr ⟨_, _, rfl, rfl⟩, hm⟩
/-- The operator of a precedence that comes next, if one does. -/
def opNext (q : Nat) : List Tk → Option Nat
  | [] => none
  | t :: _ => PsM.opAt q t.s
theorem opAt_none {q : Nat} {s : List UInt8} (h : PsM.opAt q s = none) (hq : q ≤ 6) (hs : s ≠ []) : ∀ j, j < 19 → ¬ ((rwP j).2.1 = (q : Int) ∧ (rwP j).1 = s) := fun j hj ⟨h1, h2⟩ => by
  unfold PsM.opAt at h
  rw [List.find?_eq_none] at h
  have := h j (List.mem_range.2 hj)
  simp only [Bool.and_eq_true, decide_eq_true_eq, not_and] at this
  have h3 : 3 ≤ j := by
    rcases Nat.lt_or_ge j 3 with g | g
    · have : (rwP j).1 = [] := by
        obtain rfl | rfl | rfl : j = 0 ∨ j = 1 ∨ j = 2 := by omega
        all_goals rfl
      exact absurd (h2.symm.trans this) hs
    · exact g
  exact this ⟨h3, h1⟩ h2
theorem opAt_some {q op : Nat} {s : List UInt8} (h : PsM.opAt q s = some op) (hs : s ≠ []) : op < 19 ∧ 3 ≤ op ∧ ((rwP op).2.1 = (q : Int) ∧ (rwP op).1 = s) ∧ ∀ j, j < op → ¬ ((rwP j).2.1 = (q : Int) ∧ (rwP j).1 = s) := by
  unfold PsM.opAt at h
  rw [List.find?_eq_some_iff_getElem] at h
  obtain ⟨h1, i, hi, he, hlt⟩ := h
  simp only [List.length_range] at hi
  rw [List.getElem_range] at he
  subst he
  simp only [Bool.and_eq_true, decide_eq_true_eq] at h1
  refine ⟨hi, h1.1.1, ⟨h1.1.2, h1.2⟩, fun j hj ⟨g1, g2⟩ => ?_⟩
  have := hlt j hj
  rw [List.getElem_range] at this
  have h3 : 3 ≤ j := by
    rcases Nat.lt_or_ge j 3 with g | g
    · have h0 : (rwP j).1 = [] := by
        obtain rfl | rfl | rfl : j = 0 ∨ j = 1 ∨ j = 2 := by omega
        all_goals rfl
      exact absurd (g2.symm.trans h0) hs
    · exact g
  simp [h3, g1, g2] at this
/-- No token is written as nothing. -/
def Full (L : List Tk) : Prop := ∀ t ∈ L, t.s ≠ []
theorem isN_c (hE : Env w0 P A L) (hS : St w0 P A c L w k) : ∀ (s : ByteArray) (W : World), Below w.heap.size w W → Calls Tryz.prog 56 #[.pointer (some ⟨P, 0, none⟩), .string s] W fun e w' => e = .returned (.bool (isNext s.data.toList (L.drop k))) ∧ ∃ m, w' = W.drewN m :=
  fun s W hb => isNext_c hE (hS.keep hb) s
theorem operator_no (hE : Env w0 P A L) (hS : St w0 P A c L w k) (hF : Full L) (q : Nat) (hq : q ≤ 6) (hn : opNext q (L.drop k) = none) :
    Calls Tryz.prog 37 #[.pointer (some ⟨P, 0, none⟩), .int .i64 (q : Int)] w fun e w' => e = .returned (.int .i64 0) ∧ Below w.heap.size w w' := by
  refine operator_none P (fun s => isNext s.data.toList (L.drop k)) q w (fun j hj ⟨h1, h2⟩ => ?_) (ExN.Tab.below hE.tab hS.below) (isN_c hE hS)
  cases hd : L.drop k with
  | nil => rw [hd] at h2; cases h2
  | cons t r =>
    rw [hd] at h2 hn
    obtain ⟨hk, ht, _⟩ := drop_cons hd
    refine opAt_none hn hq (hF t (by rw [ht]; exact List.getElem_mem _)) j hj ⟨h1, ?_⟩
    have := of_decide_eq_true (show decide (t.s = _) = true from h2)
    rw [this]; rfl
theorem operator_yes (hE : Env w0 P A L) (hS : St w0 P A c L w k) (hF : Full L) (q op : Nat) (hn : opNext q (L.drop k) = some op) :
    Calls Tryz.prog 37 #[.pointer (some ⟨P, 0, none⟩), .int .i64 (q : Int)] w fun e w' => e = .returned (.int .i64 (op : Int)) ∧ k < L.length ∧ St w0 P A c L w' (k + 1) ∧ w.grownBy w' (some P) := by
  cases hd : L.drop k with
  | nil => rw [hd] at hn; cases hn
  | cons t r =>
    obtain ⟨hk, ht, _⟩ := drop_cons hd
    rw [hd] at hn
    obtain ⟨o1, o3, o2, o4⟩ := opAt_some hn (hF t (by rw [ht]; exact List.getElem_mem _))
    have hone : ∀ j, ((rwP j).2.1 = (q : Int) ∧ (rwP j).1 = t.s) ↔ ((rw_ j).2.1 = (q : Int) ∧ (fun s : ByteArray => isNext s.data.toList (L.drop k)) ⟨(rw_ j).1.toArray⟩ = true) := fun j => by
      rw [hd]
      show _ ↔ _ ∧ decide (t.s = _) = true
      rw [decide_eq_true_iff]
      exact ⟨fun ⟨a, b⟩ => ⟨a, b.symm⟩, fun ⟨a, b⟩ => ⟨a, b.symm⟩⟩
    refine (operator_some P (fun s => isNext s.data.toList (L.drop k)) q w k op (by have := hE.len; omega) hS.at.2 (hS.frozen 1) o1 ((hone op).1 o2) (fun j hj h => o4 j hj ((hone j).2 h)) (ExN.Tab.below hE.tab hS.below) (isN_c hE hS)).mono ?_
    rintro e w' ⟨rfl, w1, hb, rfl⟩
    exact ⟨rfl, hk, (hS.keep hb).took hE.hP hk, grown_trans (grown_below hb _) (grown_set _ _ _ _)⟩
end
end Go.Proofs.YtjjchbafobcofaaGreatDoor.Ps
