/- The parser's methods (package expr): single, list, atom, prefixed. -/
import Derived.Test.YtjjchbafobcofaaGreatDoorPs
import Derived.Deep.DeepCutAuto
import Derived.Deep.CutBlock
namespace Go.Proofs.YtjjchbafobcofaaGreatDoor.PsR
open Go.RowKit
open LexM ExM Kit ExL ExP PsM PsT NmC Ps
set_option linter.unusedVariables false

/-! ### A box of a formula's six cells, new and then written -/
def Boxz (W : World) (b : Nat) : Prop := W.heap[b]? = some (.cells #[.int .i64 0, .int .i64 0, .int .i64 0, .string ⟨#[]⟩, .string ⟨#[]⟩, .slice none 0 0] 26 (0, 0))
theorem boxz_at (W : World) : Boxz (W.alloc (.cells #[.int .i64 0, .int .i64 0, .int .i64 0, .string ⟨#[]⟩, .string ⟨#[]⟩, .slice none 0 0] 26)) W.heap.size := World.alloc_heap_new W _
theorem boxz_keep {W W' : World} {b : Nat} (h : Boxz W b) (hb : Below W.heap.size W W') : Boxz W' b := (hb.block b (Array.getElem?_eq_some_iff.1 h).1).trans h
theorem boxz_grown {W W' : World} {b P : Nat} (h : Boxz W b) (hb : W.grownBy W' (some P)) (hne : b ≠ P) : Boxz W' b := (hb.block b (Array.getElem?_eq_some_iff.1 h).1 (fun e => hne (by injection e))).trans h
def S6 (W : World) (B : Nat) (u0 u1 u2 u3 u4 u5 : Value) : World := ((((((W.setCell ⟨B, 0, none⟩ u0).setCell ⟨B, 1, none⟩ u1).setCell ⟨B, 2, none⟩ u2).setCell ⟨B, 3, none⟩ u3).setCell ⟨B, 4, none⟩ u4).setCell ⟨B, 5, none⟩ u5)
theorem s6_heap (W : World) (B b : Nat) (h : b ≠ B) (u0 u1 u2 u3 u4 u5 : Value) : (S6 W B u0 u1 u2 u3 u4 u5).heap[b]? = W.heap[b]? := by
  unfold S6
  rw [Below.heap_setCell _ ⟨B, 5, none⟩ _ b h, Below.heap_setCell _ ⟨B, 4, none⟩ _ b h, Below.heap_setCell _ ⟨B, 3, none⟩ _ b h, Below.heap_setCell _ ⟨B, 2, none⟩ _ b h, Below.heap_setCell _ ⟨B, 1, none⟩ _ b h, Below.heap_setCell _ ⟨B, 0, none⟩ _ b h]
theorem set6_box {W : World} {B : Nat} {t0 t1 t2 t3 t4 t5 : Value} {t : TypeId} (h : W.heap[B]? = some (.cells #[t0, t1, t2, t3, t4, t5] t (0, 0))) (u0 u1 u2 u3 u4 u5 : Value) : (S6 W B u0 u1 u2 u3 u4 u5).heap[B]? = some (.cells #[u0, u1, u2, u3, u4, u5] t (0, 0)) := by
  unfold S6
  have e1 := heap_setCell_same W B 0 _ _ u0 h
  have e2 := heap_setCell_same _ B 1 _ _ u1 e1
  have e3 := heap_setCell_same _ B 2 _ _ u2 e2
  have e4 := heap_setCell_same _ B 3 _ _ u3 e3
  have e5 := heap_setCell_same _ B 4 _ _ u4 e4
  have e6 := heap_setCell_same _ B 5 _ _ u5 e5
  rw [e6]; rfl
theorem s6_size (W : World) (B : Nat) (u0 u1 u2 u3 u4 u5 : Value) : (S6 W B u0 u1 u2 u3 u4 u5).heap.size = W.heap.size := by unfold S6; simp only [sz_set]
theorem s6_grown (W : World) (B : Nat) (u0 u1 u2 u3 u4 u5 : Value) : W.grownBy (S6 W B u0 u1 u2 u3 u4 u5) (some B) := by
  unfold S6
  exact grown_trans (grown_trans (grown_trans (grown_trans (grown_trans (grown_set W B 0 u0) (grown_set _ B 1 u1)) (grown_set _ B 2 u2)) (grown_set _ B 3 u3)) (grown_set _ B 4 u4)) (grown_set _ B 5 u5)
theorem cells_of {W : World} {B : Nat} {t0 t1 t2 t3 t4 t5 : Value} {t : TypeId} (h : W.heap[B]? = some (.cells #[t0, t1, t2, t3, t4, t5] t (0, 0))) : (∀ o, W.cell? ⟨B, o, none⟩ = (#[t0, t1, t2, t3, t4, t5] : Array Value)[o]?) ∧ (∀ o, W.frozen? ⟨B, o, none⟩ = false) :=
  ⟨fun o => by simp [World.cell?, h], fun o => by simp [World.frozen?, h]⟩

/-! ### How the methods end -/
section
variable {w0 : World} {P : Nat} {A : Option Addr} {c : Nat} {L : List Tk} {w w' : World} {k : Nat}
def OkX (w0 : World) (P : Nat) (A : Option Addr) (c : Nat) (L : List Tk) (w : World) (k : Nat) (x : Ex) (r : List Tk) (e : Ending) (w' : World) : Prop :=
  ∃ (d : Nd) (B : Option Addr) (m cp k' : Nat), e = .returned (.agg #[.int .i64 d.op, .int .i64 d.k, .int .i64 d.n, .string d.s, .string d.nm, .slice B m cp]) ∧ IsP (fun b => w.heap.size ≤ b) w' x d B m ∧ r = L.drop k' ∧ k ≤ k' ∧ St w0 P A c L w' k' ∧ w.grownBy w' (some P)
def BadX (P : Nat) (w : World) (r : List Tk) (e : Ending) (w' : World) : Prop := ∃ v, e = .panicked [{ v := v, recovered := false }] ∧ Wrong v r ∧ w.grownBy w' (some P)
/-- The result, once it is stored: V is the world behind the box's laying, w1 behind the call. -/
theorem put_res {w1 : World} {k' : Nat} {x : Ex} {d : Nd} {B : Option Addr} {m cp : Nat} (hS : St w0 P A c L w k) (hP : w0.heap.size ≤ P) (hx : IsP (fun b => w.heap.size < b) w1 x d B m) (hS1 : St w0 P A c L w1 k') (hbx : Boxz w1 w.heap.size) (hg : w.grownBy w1 (some P)) :
    IsP (fun b => w.heap.size ≤ b) (S6 w1 w.heap.size (.int .i64 d.op) (.int .i64 d.k) (.int .i64 d.n) (.string d.s) (.string d.nm) (.slice B m cp)) x d B m ∧ St w0 P A c L (S6 w1 w.heap.size (.int .i64 d.op) (.int .i64 d.k) (.int .i64 d.n) (.string d.s) (.string d.nm) (.slice B m cp)) k' ∧ w.grownBy (S6 w1 w.heap.size (.int .i64 d.op) (.int .i64 d.k) (.int .i64 d.n) (.string d.s) (.string d.nm) (.slice B m cp)) (some P) := by
  have hl := hS.lt
  have hh := fun b (h : b ≠ w.heap.size) => s6_heap w1 w.heap.size b h (.int .i64 d.op) (.int .i64 d.k) (.int .i64 d.n) (.string d.s) (.string d.nm) (.slice B m cp)
  have h0 := hS.below.size
  have h1 := hg.size
  have h6 := s6_grown w1 w.heap.size (.int .i64 d.op) (.int .i64 d.k) (.int .i64 d.n) (.string d.s) (.string d.nm) (.slice B m cp)
  refine ⟨IsP.keep (fun b hb _ => hh b (Nat.ne_of_gt hb)) (fun b hb _ => Nat.le_of_lt hb) _ _ _ _ hx, ⟨(hh P (by omega)).trans hS1.prs, ?_, hS1.le⟩, ⟨h6.os.trans hg.os, h6.tape.trans hg.tape, h6.output.trans hg.output, Nat.le_trans hg.size h6.size, fun j hj hne => (hh j (by omega)).trans (hg.block j hj hne)⟩⟩
  exact hS1.below.grown (s6_grown w1 w.heap.size _ _ _ _ _ _) hS1.below.size (fun j e => by injection e with e; omega)

theorem leaf_x {t : Tk} {x : Ex} (h : leafN t = some x) : x = .mk x.d [] ∧ (x.d.s.size ≤ t.t.length ∧ x.d.nm.size ≤ t.s.length) := by
  have hz : ∀ l : List UInt8, (ByteArray.mk l.toArray).size = l.length := fun l => by simp [ByteArray.size]
  unfold leafN at h
  split at h
  · injection h with h; subst h; exact ⟨rfl, Nat.le_of_eq (hz _), Nat.zero_le _⟩
  · split at h
    · injection h with h; subst h; exact ⟨rfl, Nat.zero_le _, Nat.zero_le _⟩
    · split at h
      · injection h with h; subst h; exact ⟨rfl, Nat.zero_le _, Nat.zero_le _⟩
      · split at h
        · injection h with h; subst h; exact ⟨rfl, Nat.zero_le _, Nat.le_of_eq (hz _)⟩
        · cases h
def Small (L : List Tk) : Prop := ∀ t ∈ L, t.s.length ≤ 1000 ∧ t.t.length ≤ 1000

set_option maxHeartbeats 4000000 in
theorem single_end (hE : Env w0 P A L) (hS : St w0 P A c L w L.length) : Calls Tryz.prog 68 #[.pointer (some ⟨P, 0, none⟩)] w (BadX P w []) := by
  have hS1 := hS.keep (b_new w (.cells #[.int .i64 0, .int .i64 0, .int .i64 0, .string ⟨#[]⟩, .string ⟨#[]⟩, .slice none 0 0] 26))
  obtain ⟨h0, h1⟩ := hS.at
  have hl := hS.lt
  have ht := fun m => throw_c hE (hS1.drew m)
  have HT := Lib.hid ht
  have i0 : ((L.length : Int) == (L.length : Int)) = true := by simp
  clear ht hS1 hS
  go_enter Tryz.func68, Tryz.ntmps68
  go_wp2_with fail
  go_quiet (fail)
  go_wp2_with fail
  refine (HT.out _).mono ?_
  rintro e w1 ⟨v, rfl, hw, m, rfl⟩
  rw [List.drop_length] at hw
  have HW := Lib.hid hw
  clear hw
  go_wp2_with fail
  exact ⟨rfl, v, rfl, HW.out, grown_below (b_drewN (b_new _ _) _) _⟩

set_option maxHeartbeats 8000000 in
set_option maxRecDepth 100000 in
theorem single_any (hE : Env w0 P A L) (hS : St w0 P A c L w k) (hk : k < L.length) (b : Bool) (x : Ex) (hx : (b = true ∧ leafN L[k] = some x) ∨ (b = false ∧ leafN L[k] = none ∧ x = .mk ⟨0, 0, 0, ⟨#[]⟩, ⟨#[]⟩⟩ [])) (hsm : Small L) :
    Calls Tryz.prog 68 #[.pointer (some ⟨P, 0, none⟩)] w fun e w' => (b = true → OkX w0 P A c L w k x (L.drop (k + 1)) e w') ∧ (b = false → BadX P w (L.drop k) e w') := by
  have hx0 : x = .mk x.d [] ∧ x.d.s.size ≤ 1000 ∧ x.d.nm.size ≤ 1000 := by
    rcases hx with ⟨_, h⟩ | ⟨_, _, rfl⟩
    · have h1 := leaf_x h
      have h2 := hsm L[k] (List.getElem_mem _)
      exact ⟨h1.1, by omega, by omega⟩
    · exact ⟨rfl, Nat.zero_le _, Nat.zero_le _⟩
  obtain ⟨d, rfl⟩ : ∃ d, x = .mk d [] := ⟨_, hx0.1⟩
  have hlf : ∀ W, Below w0.heap.size w0 W → Calls Tryz.prog 79 #[tkV L[k]] W fun e w' => e = .returned (.tuple #[.agg #[.int .i64 d.op, .int .i64 d.k, .int .i64 d.n, .string d.s, .string d.nm, .slice none 0 0], .bool b]) ∧ Below W.heap.size W w' := fun W hb => by
    refine (hE.leaf L[k] (List.getElem_mem _) W hb).mono ?_
    rintro e w' ⟨h, hb⟩
    refine ⟨?_, hb⟩
    rcases hx with ⟨rfl, h1⟩ | ⟨rfl, h1, h2⟩
    · rcases h with ⟨y, h3, h4⟩ | ⟨h3, _⟩
      · rw [h1] at h3; injection h3 with h3; subst h3; exact h4
      · rw [h1] at h3; cases h3
    · rcases h with ⟨y, h3, _⟩ | ⟨_, h4⟩
      · rw [h1] at h3; cases h3
      · injection h2 with h2; subst h2; exact h4
  have hsz := hx0.2
  obtain ⟨T, hT⟩ : ∃ T, L[k] = T := ⟨_, rfl⟩
  have hd : L.drop k = T :: L.drop (k + 1) := by rw [List.drop_eq_getElem_cons hk, hT]
  rw [hT] at hlf
  unfold tkV at hlf
  have hS1 := hS.keep (b_new w (.cells #[.int .i64 0, .int .i64 0, .int .i64 0, .string ⟨#[]⟩, .string ⟨#[]⟩, .slice none 0 0] 26))
  obtain ⟨g, hA, c0, c1, c2, c3, c4, c5⟩ := tok_cells hE hS hk
  rw [hT] at c0 c1 c2 c3 c4 c5
  subst hA
  obtain ⟨h0, h1⟩ := hS.at
  have hgl := cell_ltP c0
  have hl := hS.lt
  have i0 : ((k : Int) == (L.length : Int)) = false := beq_eq_false_iff_ne.2 (by omega)
  have i1 : (k : Int) < (L.length : Int) := by omega
  have i2 : (0 : Int) ≤ (k : Int) := by omega
  have i3 : ((k : Int)).toNat = k := by omega
  have hw : IntKind.i64.wrap ((k : Int) + 1) = (k : Int) + 1 := IntWalk.i64_in _ (by have := hE.len; omega)
  have HLf := Lib.hid hlf
  have HS := Lib.hid hS
  have HE := Lib.hid hE
  clear hlf hS1 hS hT hx hx0
  go_enter Tryz.func68, Tryz.ntmps68
  go_wp2_with fail
  go_quiet (fail)
  go_upto_region 3 with fail
  obtain ⟨W1, hW1⟩ : ∃ V, (w.alloc (.cells #[.int .i64 0, .int .i64 0, .int .i64 0, .string ⟨#[]⟩, .string ⟨#[]⟩, .slice none 0 0] 26)).drewN nq = V := ⟨_, rfl⟩
  have hbW : Below w.heap.size w W1 := by rw [← hW1]; exact b_drewN (b_new _ _) _
  have hbz : Boxz W1 w.heap.size := by rw [← hW1]; exact boxz_at w
  have hcl : ∀ V, Below W1.heap.size W1 V → V.cell? ⟨P, 0, none⟩ = some (.slice (some ⟨g, 0, none⟩) L.length c) ∧ V.cell? ⟨P, 1, none⟩ = some (.int .i64 (k : Int)) ∧ V.cell? ⟨g, k * 6, none⟩ = some (.int .i64 T.kind) ∧ V.cell? ⟨g, k * 6 + 1, none⟩ = some (.int .i64 T.pos) ∧ V.cell? ⟨g, k * 6 + 2, none⟩ = some (.string ⟨T.s.toArray⟩) ∧ V.cell? ⟨g, k * 6 + 3, none⟩ = some (.int .i64 T.vk) ∧ V.cell? ⟨g, k * 6 + 4, none⟩ = some (.int .i64 T.n) ∧ V.cell? ⟨g, k * 6 + 5, none⟩ = some (.string ⟨T.t.toArray⟩) := fun V hV => by
    have hb := hbW.trans (hV.mono hbW.size)
    exact ⟨(hb.cell (p := ⟨P, 0, none⟩) hl).trans h0, (hb.cell (p := ⟨P, 1, none⟩) hl).trans h1, (hb.cell (p := ⟨g, k * 6, none⟩) hgl).trans c0, (hb.cell (p := ⟨g, k * 6 + 1, none⟩) hgl).trans c1, (hb.cell (p := ⟨g, k * 6 + 2, none⟩) hgl).trans c2, (hb.cell (p := ⟨g, k * 6 + 3, none⟩) hgl).trans c3, (hb.cell (p := ⟨g, k * 6 + 4, none⟩) hgl).trans c4, (hb.cell (p := ⟨g, k * 6 + 5, none⟩) hgl).trans c5⟩
  have hlf : ∀ W, Below W1.heap.size W1 W → _ := fun W hV => HLf.out W (HS.out.below.trans ((hbW.trans (hV.mono hbW.size)).mono HS.out.below.size))
  have HLf2 := Lib.hid hlf
  have HCells := Lib.hid hcl
  have HBW := Lib.hid hbW
  have HBz := Lib.hid hbz
  rw [hW1]
  clear hW1 hlf hcl hbW hbz HLf h0 h1 c0 c1 c2 c3 c4 c5 hE
  go_cut [3, 4] (fun s3 s4 wx => ∃ B : Nat, s3 = .pointer (some ⟨B, 0, none⟩) ∧ s4 = .bool b ∧ wx.heap[B]? = some (.cells #[.int .i64 d.op, .int .i64 d.k, .int .i64 d.n, .string d.s, .string d.nm, .slice none 0 0] 26 (0, 0)) ∧ Below W1.heap.size W1 wx)
  case first =>
    have hbl := Below.refl W1.heap.size W1
    obtain ⟨h0, h1, c0, c1, c2, c3, c4, c5⟩ := HCells.out W1 hbl
    have hset : ∀ (U : World) (u0 u1 u2 u3 u4 u5 : Value), Below W1.heap.size W1 U → ∀ V, V = S6 U W1.heap.size u0 u1 u2 u3 u4 u5 → V.cell? ⟨P, 0, none⟩ = some (.slice (some ⟨g, 0, none⟩) L.length c) ∧ V.cell? ⟨P, 1, none⟩ = some (.int .i64 (k : Int)) ∧ V.cell? ⟨g, k * 6, none⟩ = some (.int .i64 T.kind) ∧ V.cell? ⟨g, k * 6 + 1, none⟩ = some (.int .i64 T.pos) ∧ V.cell? ⟨g, k * 6 + 2, none⟩ = some (.string ⟨T.s.toArray⟩) ∧ V.cell? ⟨g, k * 6 + 3, none⟩ = some (.int .i64 T.vk) ∧ V.cell? ⟨g, k * 6 + 4, none⟩ = some (.int .i64 T.n) ∧ V.cell? ⟨g, k * 6 + 5, none⟩ = some (.string ⟨T.t.toArray⟩) := fun U u0 u1 u2 u3 u4 u5 hU V hV => by
      subst hV
      have hP1 : P < W1.heap.size := cell_ltP h0
      have hg1 : g < W1.heap.size := cell_ltP c0
      have hh := fun b (hb : b < W1.heap.size) => s6_heap U W1.heap.size b (by omega) u0 u1 u2 u3 u4 u5
      obtain ⟨k0, k1, k2, k3, k4, k5, k6, k7⟩ := HCells.out U hU
      exact ⟨(World.cell?_of_block (a := ⟨P, 0, none⟩) (hh P hP1)).trans k0, (World.cell?_of_block (a := ⟨P, 1, none⟩) (hh P hP1)).trans k1, (World.cell?_of_block (a := ⟨g, k * 6, none⟩) (hh g hg1)).trans k2, (World.cell?_of_block (a := ⟨g, k * 6 + 1, none⟩) (hh g hg1)).trans k3, (World.cell?_of_block (a := ⟨g, k * 6 + 2, none⟩) (hh g hg1)).trans k4, (World.cell?_of_block (a := ⟨g, k * 6 + 3, none⟩) (hh g hg1)).trans k5, (World.cell?_of_block (a := ⟨g, k * 6 + 4, none⟩) (hh g hg1)).trans k6, (World.cell?_of_block (a := ⟨g, k * 6 + 5, none⟩) (hh g hg1)).trans k7⟩
    have HSet := Lib.hid hset
    clear hset
    go_region_held3 (fun V => V.cell? ⟨P, 0, none⟩ = some (.slice (some ⟨g, 0, none⟩) L.length c) ∧ V.cell? ⟨P, 1, none⟩ = some (.int .i64 (k : Int)) ∧ V.cell? ⟨g, k * 6, none⟩ = some (.int .i64 T.kind) ∧ V.cell? ⟨g, k * 6 + 1, none⟩ = some (.int .i64 T.pos) ∧ V.cell? ⟨g, k * 6 + 2, none⟩ = some (.string ⟨T.s.toArray⟩) ∧ V.cell? ⟨g, k * 6 + 3, none⟩ = some (.int .i64 T.vk) ∧ V.cell? ⟨g, k * 6 + 4, none⟩ = some (.int .i64 T.n) ∧ V.cell? ⟨g, k * 6 + 5, none⟩ = some (.string ⟨T.t.toArray⟩)) (first | (with_reducible exact HCells.out _ hbl) | (with_reducible exact HCells.out _ (b_drew hbl)) | (with_reducible exact HCells.out _ (b_more hbl _)) | (with_reducible exact HCells.out _ (b_more (b_drew hbl) _)) | (with_reducible exact HCells.out _ (b_drew (b_more hbl _))) | (with_reducible exact HSet.out _ _ _ _ _ _ _ hbl _ rfl))
      (first | (go_at_call 79; (with_reducible refine (HLf2.out _ ?_).mono ?_); (first | exact hbl | exact (b_drew hbl) | exact (b_more hbl _) | exact (b_more (b_drew hbl) _) | exact (b_drew (b_more hbl _))); rintro e wz ⟨rfl, hbn⟩; have hbl : Below W1.heap.size W1 wz := (by first | exact hbl.trans (hbn.mono (hbl).size) | exact (b_drew hbl).trans (hbn.mono (b_drew hbl).size) | exact (b_more hbl _).trans (hbn.mono (b_more hbl _).size) | exact (b_more (b_drew hbl) _).trans (hbn.mono (b_more (b_drew hbl) _).size) | exact (b_drew (b_more hbl _)).trans (hbn.mono (b_drew (b_more hbl _)).size)); (first | (have bx : Boxz wz W1.heap.size := boxz_keep (by first | exact boxz_at W1 | exact boxz_at W1.drew) hbn; have pb := set6_box bx (.int .i64 d.op) (.int .i64 d.k) (.int .i64 d.n) (.string d.s) (.string d.nm) (.slice none 0 0); obtain ⟨x1, x2⟩ := cells_of bx; have x3 := (Array.getElem?_eq_some_iff.1 bx).1; have pg := (s6_grown wz W1.heap.size (.int .i64 d.op) (.int .i64 d.k) (.int .i64 d.n) (.string d.s) (.string d.nm) (.slice none 0 0)); have pb2 := hbl.grown pg hbl.size (fun j e => by injection e with e; omega)) | skip)))
    all_goals (go_wp2_with fail; go_meet)
    all_goals (first | (unfold S6 at pb pb2; with_reducible exact ⟨_, rfl, rfl, pb, pb2⟩) | (with_reducible exact ⟨_, rfl, rfl, World.alloc_heap_new _ _, b_more hbl _⟩))
  case rest =>
    obtain ⟨B, rfl, rfl, hB, hbl⟩ := hcut
    have hSc := (HS.out.keep HBW.out).keep hbl
    have hbzc := boxz_keep HBz.out hbl
    have hBP : B ≠ P := fun e => by
      have h1 := hSc.prs
      rw [← e, hB] at h1
      injection h1 with h1; injection h1 with h1; simp at h1
    have hWP : w.heap.size ≠ P := by omega
    have hgc : w.grownBy wc (some P) := grown_below (HBW.out.trans (hbl.mono HBW.out.size)) _
    have hlc := hSc.lt
    obtain ⟨h0, h1⟩ := hSc.at
    have hfz := hSc.frozen 1
    cases b with
    | false =>
      obtain ⟨y1, y2⟩ := cells_of hB
      have ht := throw_c HE.out hSc
      have HT := Lib.hid ht
      have HGc := Lib.hid hgc
      clear ht hgc hbzc hSc hB hbl h0 h1 hfz
      go_wp2_with fail
      refine HT.out.mono ?_
      rintro e w1 ⟨v, rfl, hw1, m, rfl⟩
      have HW := Lib.hid hw1
      clear hw1
      go_wp2_with fail
      exact ⟨rfl, v, rfl, by first | exact HW.out | (rw [← hd]; exact HW.out), grown_trans HGc.out (grown_below (b_drewN (Below.refl _ _) _) _)⟩
    | true =>
      have hS2 := hSc.took HE.out.hP hk
      have hB2 : (wc.setCell ⟨P, 1, none⟩ (.int .i64 ((k : Int) + 1))).heap[B]? = _ := (Below.heap_setCell wc ⟨P, 1, none⟩ _ B hBP).trans hB
      have hZ2 : (wc.setCell ⟨P, 1, none⟩ (.int .i64 ((k : Int) + 1))).heap[w.heap.size]? = _ := (Below.heap_setCell wc ⟨P, 1, none⟩ _ w.heap.size hWP).trans hbzc
      obtain ⟨y1, y2⟩ := cells_of hB2
      obtain ⟨z1, z2⟩ := cells_of hZ2
      have hx2 : IsP (fun b => w.heap.size < b) (wc.setCell ⟨P, 1, none⟩ (.int .i64 ((k : Int) + 1))) (.mk d []) d none 0 := isP_mk.2 ⟨rfl, rfl, ⟨Nat.zero_le _, by have := hsz.1; unfold maxLen; exact Nat.le_trans this (by decide), by have := hsz.2; unfold maxLen; exact Nat.le_trans this (by decide)⟩, fun j hj => absurd hj (by simp)⟩
      have hend := put_res (cp := 0) HS.out HE.out.hP hx2 hS2 hZ2 (grown_trans hgc (grown_set wc P 1 _))
      unfold S6 at hend
      have HEnd := Lib.hid hend
      clear hend hx2 hZ2 hB2 hS2 hgc hbzc hSc hB hbl
      go_wp2_with fail
      refine bodyPost_ret (v := .agg #[.int .i64 d.op, .int .i64 d.k, .int .i64 d.n, .string d.s, .string d.nm, .slice none 0 0]) (by simp [results, Tryz.results68, go_sem, z1]) rfl ?_
      obtain ⟨e1, e2, e3⟩ := HEnd.out
      exact ⟨d, none, 0, 0, k + 1, rfl, e1, rfl, Nat.le_succ _, e2, e3⟩
end
end Go.Proofs.YtjjchbafobcofaaGreatDoor.PsR
