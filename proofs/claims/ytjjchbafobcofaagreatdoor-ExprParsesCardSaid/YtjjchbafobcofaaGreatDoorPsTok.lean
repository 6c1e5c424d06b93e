/- Contracts of the parser's looks at its next token (package expr). -/
import Derived.Test.YtjjchbafobcofaaGreatDoorChecked
import Derived.Test.YtjjchbafobcofaaGreatDoorNotTab
import Derived.WalkKit
import Derived.WalkSpells
import Derived.ProofKit
import Derived.Lib.Hide
import Derived.WalkLawsBesides
import Derived.BigQuiet
import Derived.Test.YtjjchbafobcofaaGreatDoorParsMath
import Derived.Test.YtjjchbafobcofaaGreatDoorKit
import Derived.Deep.RegionHeld3
import Derived.Deep.QuietTactic
import Derived.Deep.RegionWith
import Derived.ChangeOld
import Derived.Deep.DrawnRows
import Derived.RegionTactic
import Derived.BigRegion
import Derived.RegionDies
import Derived.Deep.RegionLaw
namespace Go.Proofs.YtjjchbafobcofaaGreatDoor.PsT
open Go.RowKit
open LexM Kit
set_option linter.unusedVariables false

/-- The parser: its tokens' slice and its place. -/
def At (w : World) (P : Nat) (A : Option Addr) (n c k : Nat) : Prop :=
  w.cell? ⟨P, 0, none⟩ = some (.slice A n c) ∧ w.cell? ⟨P, 1, none⟩ = some (.int .i64 (k : Int))

set_option maxHeartbeats 2000000 in
theorem isNext_end (P : Nat) (A : Option Addr) (n c : Nat) (s : ByteArray) (w : World) (hn : n ≤ 160) (h : At w P A n c n) :
    Calls Tryz.prog 56 #[.pointer (some ⟨P, 0, none⟩), .string s] w fun e w' => e = .returned (.bool false) ∧ ∃ m, w' = w.drewN m := by
  obtain ⟨h0, h1⟩ := h
  have i0 : decide ((n : Int) < (n : Int)) = false := decide_eq_false (by omega)
  have i1 : ¬ (n : Int) < (n : Int) := by omega
  go_enter Tryz.func56, Tryz.ntmps56
  go_wp2_with fail
  go_quiet (fail)
  go_wp2_with fail
  go_ret
  exact ⟨rfl, _, rfl⟩

set_option maxHeartbeats 2000000 in
theorem isNext_some (P g : Nat) (n c k : Nat) (s t : ByteArray) (w : World) (hn : n ≤ 160) (hk : k < n) (h : At w P (some ⟨g, 0, none⟩) n c k) (ht : w.cell? ⟨g, k * 6 + 2, none⟩ = some (.string t)) (b : Bool) (hb : (t.toList == s.toList) = b) :
    Calls Tryz.prog 56 #[.pointer (some ⟨P, 0, none⟩), .string s] w fun e w' => e = .returned (.bool b) ∧ ∃ m, w' = w.drewN m := by
  obtain ⟨h0, h1⟩ := h
  have i0 : decide ((k : Int) < (n : Int)) = true := decide_eq_true (by omega)
  have i1 : (k : Int) < (n : Int) := by omega
  have i2 : (0 : Int) ≤ (k : Int) := by omega
  have i3 : ((k : Int)).toNat = k := by omega
  go_enter Tryz.func56, Tryz.ntmps56
  go_wp2_with fail
  go_quiet (fail)
  go_wp2_with fail
  go_ret
  exact ⟨rfl, _, rfl⟩

/-! ### throw -/
set_option maxHeartbeats 2000000 in
theorem throw_end (P : Nat) (A : Option Addr) (n c : Nat) (w : World) (hn : n ≤ 160) (h : At w P A n c n) :
    Calls Tryz.prog 17 #[.pointer (some ⟨P, 0, none⟩)] w fun e w' => e = .panicked [{ v := .iface 48 (.agg #[]), recovered := false }] ∧ ∃ m, w' = w.drewN m := by
  obtain ⟨h0, h1⟩ := h
  have i0 : ((n : Int) == (n : Int)) = true := by simp
  go_enter Tryz.func17, Tryz.ntmps17
  go_wp2_with fail
  go_quiet (fail)
  go_wp2_with fail
  exact ⟨rfl, rfl, _, rfl⟩

set_option maxHeartbeats 2000000 in
theorem throw_some (P g : Nat) (n c k : Nat) (kd p vk nn : Int) (u t : ByteArray) (w : World) (hn : n ≤ 160) (hk : k < n) (h : At w P (some ⟨g, 0, none⟩) n c k)
    (c0 : w.cell? ⟨g, k * 6, none⟩ = some (.int .i64 kd)) (c1 : w.cell? ⟨g, k * 6 + 1, none⟩ = some (.int .i64 p)) (c2 : w.cell? ⟨g, k * 6 + 2, none⟩ = some (.string u)) (c3 : w.cell? ⟨g, k * 6 + 3, none⟩ = some (.int .i64 vk)) (c4 : w.cell? ⟨g, k * 6 + 4, none⟩ = some (.int .i64 nn)) (c5 : w.cell? ⟨g, k * 6 + 5, none⟩ = some (.string t)) :
    Calls Tryz.prog 17 #[.pointer (some ⟨P, 0, none⟩)] w fun e w' => e = .panicked [{ v := .iface 46 (.agg #[.int .i64 kd, .int .i64 p, .string u, .int .i64 vk, .int .i64 nn, .string t]), recovered := false }] ∧ ∃ m, w' = w.drewN m := by
  obtain ⟨h0, h1⟩ := h
  have i0 : ((k : Int) == (n : Int)) = false := beq_eq_false_iff_ne.2 (by omega)
  have i1 : (k : Int) < (n : Int) := by omega
  have i2 : (0 : Int) ≤ (k : Int) := by omega
  have i3 : ((k : Int)).toNat = k := by omega
  go_enter Tryz.func17, Tryz.ntmps17
  go_wp2_with fail
  go_quiet (fail)
  go_wp2_with fail
  go_region_dies
  all_goals (try go_wp2)
  all_goals exact ⟨rfl, rfl, _, rfl⟩

/-! ### expect -/
/-- The parser's place is one further. -/
def Took (w : World) (P k : Nat) (w' : World) : Prop := ∃ m, w' = (w.drewN m).setCell ⟨P, 1, none⟩ (.int .i64 ((k : Int) + 1))

set_option maxHeartbeats 2000000 in
theorem expect_ok (P g : Nat) (n c k : Nat) (s t : ByteArray) (w : World) (hn : n ≤ 160) (hk : k < n) (h : At w P (some ⟨g, 0, none⟩) n c k) (hf : w.frozen? ⟨P, 1, none⟩ = false) (ht : w.cell? ⟨g, k * 6 + 2, none⟩ = some (.string t)) (hb : (t.toList == s.toList) = true) :
    Calls Tryz.prog 78 #[.pointer (some ⟨P, 0, none⟩), .string s] w fun e w' => e = .returned (.tuple #[]) ∧ Took w P k w' := by
  have H := Lib.hid (isNext_some P g n c k s t w hn hk h ht true hb)
  obtain ⟨h0, h1⟩ := h
  have hw : IntKind.i64.wrap ((k : Int) + 1) = (k : Int) + 1 := IntWalk.i64_in _ (by omega)
  go_enter Tryz.func78, Tryz.ntmps78
  go_wp2_with fail
  refine H.out.mono ?_
  rintro e w1 ⟨rfl, m, rfl⟩
  go_wp2_with fail
  go_end0
  exact ⟨rfl, _, rfl⟩

set_option maxHeartbeats 2000000 in
theorem expect_bad (P g : Nat) (n c k : Nat) (kd p vk nn : Int) (s u t : ByteArray) (w : World) (hn : n ≤ 160) (hk : k < n) (h : At w P (some ⟨g, 0, none⟩) n c k)
    (c0 : w.cell? ⟨g, k * 6, none⟩ = some (.int .i64 kd)) (c1 : w.cell? ⟨g, k * 6 + 1, none⟩ = some (.int .i64 p)) (c2 : w.cell? ⟨g, k * 6 + 2, none⟩ = some (.string u)) (c3 : w.cell? ⟨g, k * 6 + 3, none⟩ = some (.int .i64 vk)) (c4 : w.cell? ⟨g, k * 6 + 4, none⟩ = some (.int .i64 nn)) (c5 : w.cell? ⟨g, k * 6 + 5, none⟩ = some (.string t)) (hb : (u.toList == s.toList) = false) :
    Calls Tryz.prog 78 #[.pointer (some ⟨P, 0, none⟩), .string s] w fun e w' => e = .panicked [{ v := .iface 46 (.agg #[.int .i64 kd, .int .i64 p, .string u, .int .i64 vk, .int .i64 nn, .string t]), recovered := false }] ∧ ∃ m, w' = w.drewN m := by
  have H := Lib.hid (isNext_some P g n c k s u w hn hk h c2 false hb)
  have H2 := fun m => Lib.hid (throw_some P g n c k kd p vk nn u t (w.drewN m) hn hk h c0 c1 c2 c3 c4 c5)
  clear c0 c1 c2 c3 c4 c5 h
  go_enter Tryz.func78, Tryz.ntmps78
  go_wp2_with fail
  refine H.out.mono ?_
  rintro e w1 ⟨rfl, m, rfl⟩
  go_wp2_with fail
  refine (H2 m).out.mono ?_
  rintro e w1 ⟨rfl, m', rfl⟩
  go_wp2_with fail
  exact ⟨rfl, rfl, _, rfl⟩

set_option maxHeartbeats 2000000 in
theorem expect_end (P : Nat) (A : Option Addr) (n c : Nat) (s : ByteArray) (w : World) (hn : n ≤ 160) (h : At w P A n c n) :
    Calls Tryz.prog 78 #[.pointer (some ⟨P, 0, none⟩), .string s] w fun e w' => e = .panicked [{ v := .iface 48 (.agg #[]), recovered := false }] ∧ ∃ m, w' = w.drewN m := by
  have H := Lib.hid (isNext_end P A n c s w hn h)
  have H2 := fun m => Lib.hid (throw_end P A n c (w.drewN m) hn h)
  clear h
  go_enter Tryz.func78, Tryz.ntmps78
  go_wp2_with fail
  refine H.out.mono ?_
  rintro e w1 ⟨rfl, m, rfl⟩
  go_wp2_with fail
  refine (H2 m).out.mono ?_
  rintro e w1 ⟨rfl, m', rfl⟩
  go_wp2_with fail
  exact ⟨rfl, rfl, _, rfl⟩

/-! ### operator -/
def rw_ (k : Nat) : NotTab.Rw := NotTab.rows.getD k ([], 0, 0)
theorem rw_at (k : Nat) (h : k < 19) : NotTab.rows[k]? = some (rw_ k) := by
  unfold rw_
  rw [List.getD, List.getElem?_eq_getElem (show k < NotTab.rows.length from h)]; rfl
theorem tab_cells {w : World} (h : NotTab.Is Tryz.prog w "lychway/expr.notations" NotTab.rows) (k : Nat) (hk : k < 19) : w.cell? ⟨0, k * 3, none⟩ = some (.string ⟨(rw_ k).1.toArray⟩) ∧ w.cell? ⟨0, k * 3 + 1, none⟩ = some (.int .i64 (rw_ k).2.1) ∧ w.cell? ⟨0, k * 3 + 2, none⟩ = some (.int .i64 (rw_ k).2.2) :=
  NotTab.Is.cell h (g := 0) (by kernel_rfl) k _ (rw_at k hk)

theorem cell_ltP {w : World} {b o : Nat} {v : Value} (h : w.cell? ⟨b, o, none⟩ = some v) : b < w.heap.size := by
  rcases Nat.lt_or_ge b w.heap.size with g | g
  · exact g
  · simp [World.cell?, Array.getElem?_eq_none g] at h
theorem bcellP {B : Nat} {W w1 : World} (hb : Below B W w1) : (∀ b o, b < B → w1.cell? ⟨b, o, none⟩ = W.cell? ⟨b, o, none⟩) ∧ (∀ b o, b < B → w1.frozen? ⟨b, o, none⟩ = W.frozen? ⟨b, o, none⟩) :=
  ⟨fun b o h => hb.cell (p := ⟨b, o, none⟩) h, fun b o h => hb.frozen (p := ⟨b, o, none⟩) h⟩

/-- The table, as one value. -/
def tabV : Array Value := #[.string ⟨#[]⟩, .int .i64 0, .int .i64 0, .string ⟨#[]⟩, .int .i64 6, .int .i64 0, .string ⟨#[]⟩, .int .i64 6, .int .i64 0, .string ⟨#[45]⟩, .int .i64 5, .int .i64 1, .string ⟨#[110, 111, 116]⟩, .int .i64 5, .int .i64 1, .string ⟨#[42]⟩, .int .i64 4, .int .i64 2, .string ⟨#[47]⟩, .int .i64 4, .int .i64 2, .string ⟨#[37]⟩, .int .i64 4, .int .i64 2, .string ⟨#[43]⟩, .int .i64 3, .int .i64 2, .string ⟨#[45]⟩, .int .i64 3, .int .i64 2, .string ⟨#[38]⟩, .int .i64 3, .int .i64 2, .string ⟨#[60]⟩, .int .i64 2, .int .i64 2, .string ⟨#[60, 61]⟩, .int .i64 2, .int .i64 2, .string ⟨#[61]⟩, .int .i64 2, .int .i64 2, .string ⟨#[33, 61]⟩, .int .i64 2, .int .i64 2, .string ⟨#[97, 110, 100]⟩, .int .i64 1, .int .i64 2, .string ⟨#[111, 114]⟩, .int .i64 0, .int .i64 2, .string ⟨#[105, 102]⟩, .int .i64 6, .int .i64 3, .string ⟨#[108, 101, 110]⟩, .int .i64 6, .int .i64 1]
theorem tab_at (k : Nat) (h : k < 19) (w : World) : (Instr.index 72 (.agg tabV) (.int .i64 k)).run Tryz.prog w = .ok (.agg #[.string ⟨(rw_ k).1.toArray⟩, .int .i64 (rw_ k).2.1, .int .i64 (rw_ k).2.2]) w := by
  obtain rfl | rfl | rfl | rfl | rfl | rfl | rfl | rfl | rfl | rfl | rfl | rfl | rfl | rfl | rfl | rfl | rfl | rfl | rfl : k = 0 ∨ k = 1 ∨ k = 2 ∨ k = 3 ∨ k = 4 ∨ k = 5 ∨ k = 6 ∨ k = 7 ∨ k = 8 ∨ k = 9 ∨ k = 10 ∨ k = 11 ∨ k = 12 ∨ k = 13 ∨ k = 14 ∨ k = 15 ∨ k = 16 ∨ k = 17 ∨ k = 18 := by omega
  all_goals kernel_rfl
theorem tab_block {w : World} (h : NotTab.Is Tryz.prog w "lychway/expr.notations" NotTab.rows) : ∃ t fr, w.heap[0]? = some (.cells tabV t fr) := by
  unfold NotTab.Is World.var? at h
  have hg : Tryz.prog.globalNamed "lychway/expr.notations" = some 0 := by kernel_rfl
  rw [hg] at h
  simp only [Option.bind_some] at h
  have hv : (NotTab.rows.flatMap NotTab.rowC).toArray = tabV := by rfl
  rw [hv] at h
  split at h <;> simp_all

set_option maxRecDepth 100000 in
set_option maxHeartbeats 4000000 in
theorem operator_none (P : Nat) (f : ByteArray → Bool) (q : Nat) (w : World) (hno : ∀ j, j < 19 → ¬ ((rw_ j).2.1 = (q : Int) ∧ f ⟨(rw_ j).1.toArray⟩ = true)) (hT : NotTab.Is Tryz.prog w "lychway/expr.notations" NotTab.rows)
    (hI : ∀ s W, Below w.heap.size w W → Calls Tryz.prog 56 #[.pointer (some ⟨P, 0, none⟩), .string s] W fun e w' => e = .returned (.bool (f s)) ∧ ∃ m, w' = W.drewN m) :
    Calls Tryz.prog 37 #[.pointer (some ⟨P, 0, none⟩), .int .i64 (q : Int)] w fun e w' => e = .returned (.int .i64 0) ∧ Below w.heap.size w w' := by
  obtain ⟨tt, fr, hg⟩ := tab_block hT
  obtain ⟨tv, htv⟩ : ∃ v, v = tabV := ⟨_, rfl⟩
  rw [← htv] at hg
  have hsz : (Tryz.prog.info? 72).map (·.size) = some tv.size := by rw [htv]; kernel_rfl
  have ix := fun k h W => tab_at k h W
  rw [← htv] at ix
  have IX := Lib.hid ix
  have HI := Lib.hid hI
  have HN := Lib.hid hno
  clear htv ix hI hno
  go_enter Tryz.func37, Tryz.ntmps37
  go_wp2_with (refine wpList_load_row rfl 72 _ rfl 0 rfl tt _ fr _ hg Tryz.underlying72 rfl hsz ?_)
  clear hg hsz hT
  go_loopw [4, 8] (fun _ i wr => ∃ j : Nat, j ≤ 19 ∧ i = .int .i64 j ∧ Below w.heap.size w wr) (fun _ i _ => 19 - (intOf i).toNat)
  case atStart => exact ⟨0, by omega, rfl, Below.refl _ _⟩
  case round =>
    obtain ⟨j, hj, rfl, hb⟩ := hrel
    by_cases hlt : j < 19
    · have ix := IX.out j (by omega)
      have hnj := HN.out j hlt
      obtain ⟨s, hs⟩ : ∃ s : ByteArray, ByteArray.mk (rw_ j).1.toArray = s := ⟨_, rfl⟩
      obtain ⟨y, hy⟩ : ∃ y, (rw_ j).2.1 = y := ⟨_, rfl⟩
      obtain ⟨z, hz⟩ : ∃ z, (rw_ j).2.2 = z := ⟨_, rfl⟩
      rw [hs, hy] at hnj
      simp only [hs, hy, hz] at ix
      clear hs hy hz
      by_cases hq : y = (q : Int)
      · have hf : f s = false := by cases h : f s with | false => rfl | true => exact absurd ⟨hq, h⟩ hnj
        have h1 := HI.out s
        rw [hf] at h1
        have H1 := Lib.hid h1
        clear h1 hnj hf
        subst hq
        go_wp2_with fail
        refine (H1.out _ (b_more hb _)).mono ?_
        rintro e w1 ⟨rfl, m, rfl⟩
        go_wp2_with fail
        go_roundw
        case rel => exact ⟨j + 1, by omega, by go_num, b_drewN (b_more hb _) _⟩
        case measure => simp [intOf]; omega
      · clear hnj
        go_wp2_with fail
        go_roundw
        case rel => exact ⟨j + 1, by omega, by go_num, b_more hb _⟩
        case measure => simp [intOf]; omega
    · go_wp2_with fail
      go_ret
      exact ⟨rfl, hb⟩

set_option maxRecDepth 100000 in
set_option maxHeartbeats 4000000 in
theorem operator_some (P : Nat) (f : ByteArray → Bool) (q : Nat) (w : World) (k op : Nat) (hk : k ≤ 160) (h1 : w.cell? ⟨P, 1, none⟩ = some (.int .i64 (k : Int))) (h2 : w.frozen? ⟨P, 1, none⟩ = false) (ho : op < 19) (hop : (rw_ op).2.1 = (q : Int) ∧ f ⟨(rw_ op).1.toArray⟩ = true) (hno : ∀ j, j < op → ¬ ((rw_ j).2.1 = (q : Int) ∧ f ⟨(rw_ j).1.toArray⟩ = true)) (hT : NotTab.Is Tryz.prog w "lychway/expr.notations" NotTab.rows)
    (hI : ∀ s W, Below w.heap.size w W → Calls Tryz.prog 56 #[.pointer (some ⟨P, 0, none⟩), .string s] W fun e w' => e = .returned (.bool (f s)) ∧ ∃ m, w' = W.drewN m) :
    Calls Tryz.prog 37 #[.pointer (some ⟨P, 0, none⟩), .int .i64 (q : Int)] w fun e w' => e = .returned (.int .i64 (op : Int)) ∧ ∃ w1, Below w.heap.size w w1 ∧ w' = w1.setCell ⟨P, 1, none⟩ (.int .i64 ((k : Int) + 1)) := by
  obtain ⟨tt, fr, hg⟩ := tab_block hT
  obtain ⟨tv, htv⟩ : ∃ v, v = tabV := ⟨_, rfl⟩
  rw [← htv] at hg
  have hsz : (Tryz.prog.info? 72).map (·.size) = some tv.size := by rw [htv]; kernel_rfl
  have ix := fun k h W => tab_at k h W
  rw [← htv] at ix
  have IX := Lib.hid ix
  have HI := Lib.hid hI
  have HN := Lib.hid hno
  clear htv ix hI hno
  go_enter Tryz.func37, Tryz.ntmps37
  go_wp2_with (refine wpList_load_row rfl 72 _ rfl 0 rfl tt _ fr _ hg Tryz.underlying72 rfl hsz ?_)
  clear hg hsz hT
  go_loopw [4, 8] (fun _ i wr => ∃ j : Nat, j ≤ op ∧ i = .int .i64 j ∧ Below w.heap.size w wr) (fun _ i _ => 19 - (intOf i).toNat)
  case atStart => exact ⟨0, by omega, rfl, Below.refl _ _⟩
  case round =>
    obtain ⟨j, hj, rfl, hb⟩ := hrel
    by_cases hlt : j < op
    · have ix := IX.out j (by omega)
      have hnj := HN.out j hlt
      obtain ⟨s, hs⟩ : ∃ s : ByteArray, ByteArray.mk (rw_ j).1.toArray = s := ⟨_, rfl⟩
      obtain ⟨y, hy⟩ : ∃ y, (rw_ j).2.1 = y := ⟨_, rfl⟩
      obtain ⟨z, hz⟩ : ∃ z, (rw_ j).2.2 = z := ⟨_, rfl⟩
      rw [hs, hy] at hnj
      simp only [hs, hy, hz] at ix
      clear hs hy hz
      by_cases hq : y = (q : Int)
      · have hf : f s = false := by cases h : f s with | false => rfl | true => exact absurd ⟨hq, h⟩ hnj
        have h1 := HI.out s
        rw [hf] at h1
        have H1 := Lib.hid h1
        clear h1 hnj hf
        subst hq
        go_wp2_with fail
        refine (H1.out _ (b_more hb _)).mono ?_
        rintro e w1 ⟨rfl, m, rfl⟩
        go_wp2_with fail
        go_roundw
        case rel => exact ⟨j + 1, by omega, by go_num, b_drewN (b_more hb _) _⟩
        case measure => simp [intOf]; omega
      · clear hnj
        go_wp2_with fail
        go_roundw
        case rel => exact ⟨j + 1, by omega, by go_num, b_more hb _⟩
        case measure => simp [intOf]; omega
    · obtain rfl : j = op := by omega
      have ix := IX.out j (by omega)
      obtain ⟨s, hs⟩ : ∃ s : ByteArray, ByteArray.mk (rw_ j).1.toArray = s := ⟨_, rfl⟩
      obtain ⟨y, hy⟩ : ∃ y, (rw_ j).2.1 = y := ⟨_, rfl⟩
      obtain ⟨z, hz⟩ : ∃ z, (rw_ j).2.2 = z := ⟨_, rfl⟩
      rw [hs, hy] at hop
      simp only [hs, hy, hz] at ix
      clear hs hy hz
      obtain ⟨hq, hf⟩ := hop
      have h1' := HI.out s
      rw [hf] at h1'
      have H1 := Lib.hid h1'
      clear h1' hf
      subst hq
      have hP : P < w.heap.size := cell_ltP h1
      have c1 : ∀ V, Below w.heap.size w V → V.cell? ⟨P, 1, none⟩ = some (.int .i64 (k : Int)) := fun V hV => by rw [(bcellP hV).1 P 1 hP]; exact h1
      have c2 : ∀ V, Below w.heap.size w V → V.frozen? ⟨P, 1, none⟩ = false := fun V hV => by rw [(bcellP hV).2 P 1 hP]; exact h2
      have hw : IntKind.i64.wrap ((k : Int) + 1) = (k : Int) + 1 := IntWalk.i64_in _ (by omega)
      go_wp2_with fail
      refine (H1.out _ (b_more hb _)).mono ?_
      rintro e w1 ⟨rfl, m, rfl⟩
      have hb1 := b_drewN (b_more hb (.cells #[.string s, .int .i64 (q : Int), .int .i64 z] 71)) m
      have c1' := c1 _ hb1
      have c2' := c2 _ hb1
      clear c1 c2 h1 h2
      go_wp2_with fail
      go_ret
      exact ⟨rfl, _, hb1, rfl⟩

/-! ### leaf -/
theorem leaf_const (kd p vk nn : Int) (u t : ByteArray) (hk : kd = 1 ∨ kd = 3) (w : World) :
    Calls Tryz.prog 79 #[.agg #[.int .i64 kd, .int .i64 p, .string u, .int .i64 vk, .int .i64 nn, .string t]] w fun e w' => e = .returned (.tuple #[.agg #[.int .i64 1, .int .i64 vk, .int .i64 nn, .string t, .string ⟨#[]⟩, .slice none 0 0], .bool true]) ∧ Below w.heap.size w w' := by
  rcases hk with rfl | rfl
  · go_enter Tryz.func79, Tryz.ntmps79
    go_wp2_with fail
    refine bodyPost_ret (v := .tuple #[.agg #[.int .i64 1, .int .i64 vk, .int .i64 nn, .string t, .string ⟨#[]⟩, .slice none 0 0], .bool true]) (by simp [results, Tryz.results79, go_sem]) rfl ⟨rfl, b_more (b_new _ _) _⟩
  · go_enter Tryz.func79, Tryz.ntmps79
    go_wp2_with fail
    refine bodyPost_ret (v := .tuple #[.agg #[.int .i64 1, .int .i64 vk, .int .i64 nn, .string t, .string ⟨#[]⟩, .slice none 0 0], .bool true]) (by simp [results, Tryz.results79, go_sem]) rfl ⟨rfl, b_more (b_new _ _) _⟩

theorem leaf_name (p vk nn : Int) (u t : ByteArray) (hu : (u.toList == [116, 114, 117, 101]) = false) (hv : (u.toList == [102, 97, 108, 115, 101]) = false) (w : World)
    (hK : ∀ W, Calls Tryz.prog 71 #[.string u] W fun e w' => e = .returned (.bool false) ∧ W = w') :
    Calls Tryz.prog 79 #[.agg #[.int .i64 2, .int .i64 p, .string u, .int .i64 vk, .int .i64 nn, .string t]] w fun e w' => e = .returned (.tuple #[.agg #[.int .i64 2, .int .i64 0, .int .i64 0, .string ⟨#[]⟩, .string u, .slice none 0 0], .bool true]) ∧ Below w.heap.size w w' := by
  have HK := Lib.hid hK
  clear hK
  go_enter Tryz.func79, Tryz.ntmps79
  go_wp2_with fail
  refine (HK.out _).mono ?_
  rintro e w1 ⟨rfl, rfl⟩
  go_wp2_with fail
  refine bodyPost_ret (v := .tuple #[.agg #[.int .i64 2, .int .i64 0, .int .i64 0, .string ⟨#[]⟩, .string u, .slice none 0 0], .bool true]) (by simp [results, Tryz.results79, go_sem]) rfl ⟨rfl, b_more (b_new _ _) _⟩

theorem leaf_key (p vk nn : Int) (u t : ByteArray) (hu : (u.toList == [116, 114, 117, 101]) = false) (hv : (u.toList == [102, 97, 108, 115, 101]) = false) (w : World)
    (hK : ∀ W, Calls Tryz.prog 71 #[.string u] W fun e w' => e = .returned (.bool true) ∧ W = w') :
    Calls Tryz.prog 79 #[.agg #[.int .i64 2, .int .i64 p, .string u, .int .i64 vk, .int .i64 nn, .string t]] w fun e w' => e = .returned (.tuple #[.agg #[.int .i64 0, .int .i64 0, .int .i64 0, .string ⟨#[]⟩, .string ⟨#[]⟩, .slice none 0 0], .bool false]) ∧ Below w.heap.size w w' := by
  have HK := Lib.hid hK
  clear hK
  go_enter Tryz.func79, Tryz.ntmps79
  go_wp2_with fail
  refine (HK.out _).mono ?_
  rintro e w1 ⟨rfl, rfl⟩
  go_wp2_with fail
  refine bodyPost_ret (v := .tuple #[.agg #[.int .i64 0, .int .i64 0, .int .i64 0, .string ⟨#[]⟩, .string ⟨#[]⟩, .slice none 0 0], .bool false]) (by simp [results, Tryz.results79, go_sem]) rfl ⟨rfl, b_more (b_new _ _) _⟩

theorem leaf_none (kd p vk nn : Int) (u t : ByteArray) (k1 : kd ≠ 1) (k2 : kd ≠ 2) (k3 : kd ≠ 3) (hu : (u.toList == [116, 114, 117, 101]) = false) (hv : (u.toList == [102, 97, 108, 115, 101]) = false) (w : World) :
    Calls Tryz.prog 79 #[.agg #[.int .i64 kd, .int .i64 p, .string u, .int .i64 vk, .int .i64 nn, .string t]] w fun e w' => e = .returned (.tuple #[.agg #[.int .i64 0, .int .i64 0, .int .i64 0, .string ⟨#[]⟩, .string ⟨#[]⟩, .slice none 0 0], .bool false]) ∧ Below w.heap.size w w' := by
  have e1 : (kd == 1) = false := beq_eq_false_iff_ne.2 k1
  have e2 : (kd == 2) = false := beq_eq_false_iff_ne.2 k2
  have e3 : (kd == 3) = false := beq_eq_false_iff_ne.2 k3
  go_enter Tryz.func79, Tryz.ntmps79
  go_wp2_with fail
  refine bodyPost_ret (v := .tuple #[.agg #[.int .i64 0, .int .i64 0, .int .i64 0, .string ⟨#[]⟩, .string ⟨#[]⟩, .slice none 0 0], .bool false]) (by simp [results, Tryz.results79, go_sem]) rfl ⟨rfl, b_more (b_new _ _) _⟩
end Go.Proofs.YtjjchbafobcofaaGreatDoor.PsT
