/- expr.leaf: every token of a text. -/
import Derived.Test.YtjjchbafobcofaaGreatDoorPsTok
import Derived.Test.YtjjchbafobcofaaGreatDoorPsRun
import Derived.Test.YtjjchbafobcofaaGreatDoorPsLex
import Derived.Test.YtjjchbafobcofaaGreatDoorParse
import Derived.Test.YtjjchbafobcofaaGreatDoorLexBytes
namespace Go.Proofs.YtjjchbafobcofaaGreatDoor.PsLf
open Go.RowKit
open LexM ExM Kit ExL ExP PsM PsT NmC Ps PsR PsLx LexB
set_option linter.unusedVariables false

set_option maxHeartbeats 2000000 in
theorem leaf_true (p vk nn : Int) (u t : ByteArray) (hu : (u.toList == [116, 114, 117, 101]) = true) (w : World)
    (hP : ∀ W, Below w.heap.size w W → Calls Tryz.prog 85 #[.string u] W fun e w' => e = .returned (.tuple #[.agg #[.int .i64 2, .int .i64 1, .string ⟨#[]⟩], .int .i64 0]) ∧ Below W.heap.size W w') :
    Calls Tryz.prog 79 #[.agg #[.int .i64 2, .int .i64 p, .string u, .int .i64 vk, .int .i64 nn, .string t]] w fun e w' => e = .returned (.tuple #[.agg #[.int .i64 1, .int .i64 2, .int .i64 1, .string ⟨#[]⟩, .string ⟨#[]⟩, .slice none 0 0], .bool true]) ∧ Below w.heap.size w w' := by
  have HP := Lib.hid hP
  clear hP
  go_enter Tryz.func79, Tryz.ntmps79
  go_wp2_with fail
  obtain ⟨W, hW⟩ : ∃ W, ((w.alloc (.cells #[.int .i64 2, .int .i64 p, .string u, .int .i64 vk, .int .i64 nn, .string t] 42)).alloc (.cells #[.int .i64 0, .int .i64 0, .int .i64 0, .string ⟨#[]⟩, .string ⟨#[]⟩, .slice none 0 0] 26)) = W := ⟨_, rfl⟩
  have hb : Below w.heap.size w W := by rw [← hW]; exact b_more (b_new _ _) _
  have hs : W.heap.size = w.heap.size + 2 := by rw [← hW]; simp
  have h1 : W.heap[w.heap.size + 1]? = some (.cells #[.int .i64 0, .int .i64 0, .int .i64 0, .string ⟨#[]⟩, .string ⟨#[]⟩, .slice none 0 0] 26 (0, 0)) := by
    rw [← hW]; have := World.alloc_heap_new (w.alloc (.cells #[.int .i64 2, .int .i64 p, .string u, .int .i64 vk, .int .i64 nn, .string t] 42)) (.cells #[.int .i64 0, .int .i64 0, .int .i64 0, .string ⟨#[]⟩, .string ⟨#[]⟩, .slice none 0 0] 26 (0, 0)); simpa using this
  rw [hW]
  clear hW
  refine (HP.out W hb).mono ?_
  rintro e w2 ⟨rfl, hb2⟩
  have k1 := (hb2.block _ (by omega)).trans h1
  obtain ⟨c1, f1⟩ := cells_of k1
  have l1 := (Array.getElem?_eq_some_iff.1 k1).1
  have HB := Lib.hid (hb.trans (hb2.mono hb.size))
  clear hb hb2 k1 h1 hs HP
  go_wp2_with fail
  refine bodyPost_ret (v := .tuple #[.agg #[.int .i64 1, .int .i64 2, .int .i64 1, .string ⟨#[]⟩, .string ⟨#[]⟩, .slice none 0 0], .bool true]) (by simp [results, Tryz.results79, go_sem, c1, l1]) rfl ⟨rfl, ?_⟩
  exact b_more ((((((HB.out.setCell (p := ⟨w.heap.size + 1, 0, none⟩) (Nat.le_succ _) _).setCell (p := ⟨w.heap.size + 1, 1, none⟩) (Nat.le_succ _) _).setCell (p := ⟨w.heap.size + 1, 2, none⟩) (Nat.le_succ _) _).setCell (p := ⟨w.heap.size + 1, 3, none⟩) (Nat.le_succ _) _).setCell (p := ⟨w.heap.size + 1, 4, none⟩) (Nat.le_succ _) _).setCell (p := ⟨w.heap.size + 1, 5, none⟩) (Nat.le_succ _) _) _
set_option maxHeartbeats 2000000 in
theorem leaf_false (p vk nn : Int) (u t : ByteArray) (hu : (u.toList == [116, 114, 117, 101]) = false) (hv : (u.toList == [102, 97, 108, 115, 101]) = true) (w : World)
    (hP : ∀ W, Below w.heap.size w W → Calls Tryz.prog 85 #[.string u] W fun e w' => e = .returned (.tuple #[.agg #[.int .i64 2, .int .i64 0, .string ⟨#[]⟩], .int .i64 0]) ∧ Below W.heap.size W w') :
    Calls Tryz.prog 79 #[.agg #[.int .i64 2, .int .i64 p, .string u, .int .i64 vk, .int .i64 nn, .string t]] w fun e w' => e = .returned (.tuple #[.agg #[.int .i64 1, .int .i64 2, .int .i64 0, .string ⟨#[]⟩, .string ⟨#[]⟩, .slice none 0 0], .bool true]) ∧ Below w.heap.size w w' := by
  have HP := Lib.hid hP
  clear hP
  go_enter Tryz.func79, Tryz.ntmps79
  go_wp2_with fail
  obtain ⟨W, hW⟩ : ∃ W, ((w.alloc (.cells #[.int .i64 2, .int .i64 p, .string u, .int .i64 vk, .int .i64 nn, .string t] 42)).alloc (.cells #[.int .i64 0, .int .i64 0, .int .i64 0, .string ⟨#[]⟩, .string ⟨#[]⟩, .slice none 0 0] 26)) = W := ⟨_, rfl⟩
  have hb : Below w.heap.size w W := by rw [← hW]; exact b_more (b_new _ _) _
  have hs : W.heap.size = w.heap.size + 2 := by rw [← hW]; simp
  have h1 : W.heap[w.heap.size + 1]? = some (.cells #[.int .i64 0, .int .i64 0, .int .i64 0, .string ⟨#[]⟩, .string ⟨#[]⟩, .slice none 0 0] 26 (0, 0)) := by
    rw [← hW]; have := World.alloc_heap_new (w.alloc (.cells #[.int .i64 2, .int .i64 p, .string u, .int .i64 vk, .int .i64 nn, .string t] 42)) (.cells #[.int .i64 0, .int .i64 0, .int .i64 0, .string ⟨#[]⟩, .string ⟨#[]⟩, .slice none 0 0] 26 (0, 0)); simpa using this
  rw [hW]
  clear hW
  refine (HP.out W hb).mono ?_
  rintro e w2 ⟨rfl, hb2⟩
  have k1 := (hb2.block _ (by omega)).trans h1
  obtain ⟨c1, f1⟩ := cells_of k1
  have l1 := (Array.getElem?_eq_some_iff.1 k1).1
  have HB := Lib.hid (hb.trans (hb2.mono hb.size))
  clear hb hb2 k1 h1 hs HP
  go_wp2_with fail
  refine bodyPost_ret (v := .tuple #[.agg #[.int .i64 1, .int .i64 2, .int .i64 0, .string ⟨#[]⟩, .string ⟨#[]⟩, .slice none 0 0], .bool true]) (by simp [results, Tryz.results79, go_sem, c1, l1]) rfl ⟨rfl, ?_⟩
  exact b_more ((((((HB.out.setCell (p := ⟨w.heap.size + 1, 0, none⟩) (Nat.le_succ _) _).setCell (p := ⟨w.heap.size + 1, 1, none⟩) (Nat.le_succ _) _).setCell (p := ⟨w.heap.size + 1, 2, none⟩) (Nat.le_succ _) _).setCell (p := ⟨w.heap.size + 1, 3, none⟩) (Nat.le_succ _) _).setCell (p := ⟨w.heap.size + 1, 4, none⟩) (Nat.le_succ _) _).setCell (p := ⟨w.heap.size + 1, 5, none⟩) (Nat.le_succ _) _) _

theorem parse_bool (s : ByteArray) (z : Int) (hz : z = 0 ∨ z = 1) (hs : s.data.toList = ShowM.showL 2 z []) (w : World) (hv : Parse.Vars w) :
    Calls Tryz.prog 85 #[.string s] w fun e w' => e = .returned (.tuple #[.agg #[.int .i64 2, .int .i64 z, .string ⟨#[]⟩], .int .i64 0]) ∧ Below w.heap.size w w' := by
  have hval : ValM.valE 2 z [] = 0 ∧ ValM.numE 2 z = 0 ∧ ValM.strE 2 [] = 0 := by rcases hz with rfl | rfl <;> decide
  have hlen : s.size ≤ 140737488351232 := by
    have : s.size = (ShowM.showL 2 z []).length := by rw [← hs]; rfl
    rw [this]; rcases hz with rfl | rfl <;> decide
  obtain ⟨j, y, m, t, h, hc⟩ := Parse.parse_any s hlen
  rcases h with ⟨rfl, h1, h2⟩ | ⟨rfl, _, _, _, h⟩
  · have e1 := ParseM.cand_show (Show.val_ok h1).1 (Show.val_ok h1).2
    have e2 := ParseM.cand_show hval.2.1 hval.2.2
    rw [h2, hs, e2] at e1
    simp only [Option.some.injEq, Prod.mk.injEq] at e1
    obtain ⟨rfl, rfl, e3⟩ := e1
    have ht : t = ⟨#[]⟩ := by
      cases t with
      | mk d => cases d with | mk l => simp at e3; subst e3; rfl
    subst ht
    exact hc w hv
  · exact absurd hs.symm (h 2 z [] hval.1)

/-- leaf, of a token of any text. -/
theorem leaf_any (t : Tk) (ht : Kd t) (w : World) (hv : Parse.Vars w) : Calls Tryz.prog 79 #[tkV t] w (LeafOut t w) := by
  have eT := eqb_of ⟨t.s.toArray⟩ [116, 114, 117, 101]
  have eF := eqb_of ⟨t.s.toArray⟩ [102, 97, 108, 115, 101]
  have es : (⟨t.s.toArray⟩ : ByteArray).data.toList = t.s := rfl
  rw [es] at eT eF
  unfold tkV LeafOut
  by_cases hk : t.kind = 1 ∨ t.kind = 3
  · refine (leaf_const t.kind t.pos t.vk t.n ⟨t.s.toArray⟩ ⟨t.t.toArray⟩ hk w).mono ?_
    rintro e w' ⟨rfl, hb⟩
    exact ⟨.inl ⟨_, by unfold leafN; rw [if_pos hk], rfl⟩, hb⟩
  by_cases h2 : t.kind = 2
  · by_cases g1 : t.s = trueB
    · have := leaf_true t.pos t.vk t.n ⟨t.s.toArray⟩ ⟨t.t.toArray⟩ (by rw [eT]; exact decide_eq_true g1) w (fun W hb => parse_bool _ 1 (.inr rfl) (by rw [show_true]; exact g1) W (hv.below hb))
      rw [h2]
      refine this.mono ?_
      rintro e w' ⟨rfl, hb⟩
      exact ⟨.inl ⟨_, by unfold leafN; rw [if_neg hk, if_pos g1], rfl⟩, hb⟩
    by_cases g2 : t.s = falseB
    · have := leaf_false t.pos t.vk t.n ⟨t.s.toArray⟩ ⟨t.t.toArray⟩ (by rw [eT]; exact decide_eq_false g1) (by rw [eF]; exact decide_eq_true g2) w (fun W hb => parse_bool _ 0 (.inl rfl) (by rw [show_false]; exact g2) W (hv.below hb))
      rw [h2]
      refine this.mono ?_
      rintro e w' ⟨rfl, hb⟩
      exact ⟨.inl ⟨_, by unfold leafN; rw [if_neg hk, if_neg g1, if_pos g2], rfl⟩, hb⟩
    have kk := fun W => key_any ⟨t.s.toArray⟩ W
    cases hkey : keyB t.s with
    | false =>
      have := leaf_name t.pos t.vk t.n ⟨t.s.toArray⟩ ⟨t.t.toArray⟩ (by rw [eT]; exact decide_eq_false g1) (by rw [eF]; exact decide_eq_false g2) w (fun W => (kk W).mono (fun e w' h => ⟨by rw [h.1, es, hkey], h.2⟩))
      rw [h2]
      refine this.mono ?_
      rintro e w' ⟨rfl, hb⟩
      exact ⟨.inl ⟨_, by unfold leafN; rw [if_neg hk, if_neg g1, if_neg g2, if_pos ⟨h2, hkey⟩], rfl⟩, hb⟩
    | true =>
      have := leaf_key t.pos t.vk t.n ⟨t.s.toArray⟩ ⟨t.t.toArray⟩ (by rw [eT]; exact decide_eq_false g1) (by rw [eF]; exact decide_eq_false g2) w (fun W => (kk W).mono (fun e w' h => ⟨by rw [h.1, es, hkey], h.2⟩))
      rw [h2]
      refine this.mono ?_
      rintro e w' ⟨rfl, hb⟩
      exact ⟨.inr ⟨by unfold leafN; rw [if_neg hk, if_neg g1, if_neg g2, if_neg (by rw [hkey]; simp)], rfl⟩, hb⟩
  · rcases ht with h | h | h | ⟨h, g1, g2⟩
    · exact absurd (.inl h) hk
    · exact absurd (.inr h) hk
    · exact absurd h h2
    refine (leaf_none t.kind t.pos t.vk t.n ⟨t.s.toArray⟩ ⟨t.t.toArray⟩ (fun e => hk (.inl e)) h2 (fun e => hk (.inr e)) (by rw [eT]; exact decide_eq_false g1) (by rw [eF]; exact decide_eq_false g2) w).mono ?_
    rintro e w' ⟨rfl, hb⟩
    exact ⟨.inr ⟨by unfold leafN; rw [if_neg hk, if_neg g1, if_neg g2, if_neg (fun e => h2 e.1)], rfl⟩, hb⟩
end Go.Proofs.YtjjchbafobcofaaGreatDoor.PsLf
