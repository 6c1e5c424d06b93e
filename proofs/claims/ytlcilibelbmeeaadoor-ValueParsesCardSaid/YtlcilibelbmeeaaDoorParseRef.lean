/- Contract of the reference's ValueOf (P2.4): of all that it might be the one that is shown so. -/
import Derived.Test.YtlcilibelbmeeaaDoorParse
import Derived.Test.YtlcilibelbmeeaaDoorShowRef
import Derived.Deep.LoopGhost
namespace Go.Proofs.YtlcilibelbmeeaaDoor.ParseRef
open Go.RowKit
open NumM ValM ShowM ParseM Kit Show Parse ShowRef
set_option linter.unusedVariables false

/-- What the reference takes for the text behind the first sign. -/
def txt : List UInt8 → List UInt8
  | [] => []
  | [_] => []
  | c :: d :: r => if c = 92 ∧ r ≠ [] then d :: txt r else c :: txt (d :: r)

theorem txt_esc : ∀ l : List UInt8, txt (escL l ++ [34]) = l
  | [] => rfl
  | c :: l => by
    have e : escL (c :: l) = (if c = 34 ∨ c = 92 then [92, c] else [c]) ++ escL l := by unfold escL; rw [List.flatMap_cons]
    rw [e]
    by_cases h : c = 34 ∨ c = 92
    · rw [if_pos h]
      show txt (92 :: c :: (escL l ++ [34])) = c :: l
      rw [txt, if_pos ⟨rfl, by simp⟩, txt_esc l]
    · rw [if_neg h]
      have h2 : c ≠ 92 := fun g => h (.inr g)
      obtain ⟨d, r, hd⟩ : ∃ d r, escL l ++ [34] = d :: r := by
        cases hh : escL l ++ [34] with
        | nil => simp at hh
        | cons d r => exact ⟨d, r, rfl⟩
      show txt (c :: (escL l ++ [34])) = c :: l
      rw [hd, txt, if_neg (fun g => h2 g.1), ← hd, txt_esc l]

theorem txt_stop (s : ByteArray) (k : Nat) (h : s.size ≤ k + 1) : txt (s.data.toList.drop k) = [] := by
  by_cases g : k < s.size
  · rw [drop_cons s k g, List.drop_eq_nil_of_le (by rw [len_size]; omega)]; rfl
  · rw [List.drop_eq_nil_of_le (by rw [len_size]; omega)]; rfl
theorem txt_step1 (s : ByteArray) (k : Nat) (h : k + 1 < s.size) (h2 : ¬ (s[k] = 92 ∧ k + 2 < s.size)) : txt (s.data.toList.drop k) = s[k] :: txt (s.data.toList.drop (k + 1)) := by
  rw [drop_cons s k (by omega), drop_cons s (k + 1) h, txt, if_neg]
  rintro ⟨g1, g2⟩
  refine h2 ⟨g1, ?_⟩
  by_cases g : k + 2 < s.size
  · exact g
  · exact absurd (List.drop_eq_nil_of_le (by rw [len_size]; omega)) g2
theorem txt_step2 (s : ByteArray) (k : Nat) (h : k + 2 < s.size) (h1 : s[k] = 92) : txt (s.data.toList.drop k) = s[k + 1] :: txt (s.data.toList.drop (k + 2)) := by
  rw [drop_cons s k (by omega), drop_cons s (k + 1) (by omega), txt, if_pos]
  refine ⟨h1, fun g => ?_⟩
  have := congrArg List.length g
  rw [List.length_drop, len_size] at this
  simp at this
  omega

structure TxInv (s : ByteArray) (k : Nat) (t : ByteArray) : Prop where
  le : 1 ≤ k
  is : t.data.toList ++ txt (s.data.toList.drop k) = txt (s.data.toList.drop 1)
  len : t.size ≤ k

/-- The six candidates. -/
def cK : Nat → Int | 0 => 4 | 1 => 2 | 2 => 2 | 3 => 1 | 4 => 5 | _ => 3
def cN (n m : Int) : Nat → Int | 2 => 1 | 3 => n | 4 => m | _ => 0
def cS (t : ByteArray) : Nat → ByteArray | 5 => t | _ => ⟨#[]⟩
def tab (n m : Int) (t : ByteArray) : Array Value := #[.int .i64 4, .int .i64 0, .string ⟨#[]⟩, .int .i64 2, .int .i64 0, .string ⟨#[]⟩, .int .i64 2, .int .i64 1, .string ⟨#[]⟩, .int .i64 1, .int .i64 n, .string ⟨#[]⟩, .int .i64 5, .int .i64 m, .string ⟨#[]⟩, .int .i64 3, .int .i64 0, .string t]
/-- It is valid, and shown as s. -/
def isIt (s : ByteArray) (k n : Int) (u : ByteArray) : Prop := valE k n u.data.toList = 0 ∧ showL k n u.data.toList = s.data.toList

structure LInv (w : World) (G : Nat) (n m : Int) (t s : ByteArray) (k : Nat) (wr : World) : Prop where
  le : k ≤ 6
  cells : ∀ i, i < 6 → wr.cell? ⟨G, i * 3, none⟩ = some (.int .i64 (cK i)) ∧ wr.cell? ⟨G, i * 3 + 1, none⟩ = some (.int .i64 (cN n m i)) ∧ wr.cell? ⟨G, i * 3 + 2, none⟩ = some (.string (cS t i))
  r0 : wr.cell? ⟨w.heap.size, 0, none⟩ = some (.int .i64 0)
  r1 : wr.cell? ⟨w.heap.size, 1, none⟩ = some (.int .i64 0)
  r2 : wr.cell? ⟨w.heap.size, 2, none⟩ = some (.string ⟨#[]⟩)
  free : ∀ j, wr.frozen? ⟨w.heap.size, j, none⟩ = false
  lt : w.heap.size < wr.heap.size
  ltG : G < wr.heap.size
  below : Below w.heap.size w wr
  no : ∀ i, i < k → ¬ isIt s (cK i) (cN n m i) (cS t i)

theorem LInv.start (w w1 : World) (n m : Int) (t s : ByteArray) (hb : Below (w.alloc (.cells #[.int .i64 0, .int .i64 0, .string ⟨#[]⟩] 23)).heap.size (w.alloc (.cells #[.int .i64 0, .int .i64 0, .string ⟨#[]⟩] 23)) w1) :
    LInv w w1.heap.size n m t s 0 (w1.alloc (.cells (tab n m t) 23)) := by
  obtain ⟨c1, d1⟩ := bcell hb
  have z1 : w.heap.size < w1.heap.size := lt_b hb (by simp)
  have q : ∀ j, (w1.alloc (.cells (tab n m t) 23)).cell? ⟨w.heap.size, j, none⟩ = (w.alloc (.cells #[.int .i64 0, .int .i64 0, .string ⟨#[]⟩] 23)).cell? ⟨w.heap.size, j, none⟩ := fun j => by
    rw [World.cell?_alloc_lt _ _ _ z1]; exact c1 _ _ (by simp)
  refine ⟨by omega, fun i hi => ?_, by rw [q]; simp, by rw [q]; simp, by rw [q]; simp, fun j => ?_, by simp; omega, by simp, b_more (b_then hb) _, fun i hi => by omega⟩
  · match i, hi with
    | 0, _ => simp [tab, cK, cN, cS]
    | 1, _ => simp [tab, cK, cN, cS]
    | 2, _ => simp [tab, cK, cN, cS]
    | 3, _ => simp [tab, cK, cN, cS]
    | 4, _ => simp [tab, cK, cN, cS]
    | 5, _ => simp [tab, cK, cN, cS]
  · rw [World.frozen?_alloc_old _ _ _ (Nat.ne_of_lt z1), d1 _ _ (by simp)]
    exact Lib.frozen_of_heap (heap_alloc_new w _) j

theorem LInv.step {w : World} {G : Nat} {n m : Int} {t s : ByteArray} {k : Nat} {wr w2 : World} (h : LInv w G n m t s k wr) (hk : k < 6) (hb : Below wr.heap.size wr w2) (hn : ¬ isIt s (cK k) (cN n m k) (cS t k)) : LInv w G n m t s (k + 1) w2 := by
  obtain ⟨c1, d1⟩ := bcell hb
  refine ⟨hk, fun i hi => ?_, by rw [c1 _ _ h.lt]; exact h.r0, by rw [c1 _ _ h.lt]; exact h.r1, by rw [c1 _ _ h.lt]; exact h.r2, fun j => by rw [d1 _ _ h.lt]; exact h.free j, lt_b hb h.lt, lt_b hb h.ltG, b_trans h.below hb, fun i hi => ?_⟩
  · rw [c1 _ _ h.ltG, c1 _ _ h.ltG, c1 _ _ h.ltG]; exact h.cells i hi
  · by_cases e : i = k
    · subst e; exact hn
    · exact h.no i (by omega)

/-- Whatever is shown as s is among the six. -/
theorem among (s t : ByteArray) (n m : Int) (HN : ∀ v, Lib.atoiAll s.data.toList = .ok v → n = v) (HM : (s.size = 0 ∧ m = 0) ∨ (1 ≤ s.size ∧ ∀ v, Lib.atoiAll s.data.toList.tail = .ok v → m = v)) (HT : t.data.toList = txt (s.data.toList.drop 1))
    (k z : Int) (u : ByteArray) (h : isIt s k z u) : ∃ i, i < 6 ∧ cK i = k ∧ cN n m i = z ∧ cS t i = u := by
  obtain ⟨h1, h2⟩ := h
  obtain ⟨g1, g2⟩ := val_ok h1
  have hu : k ≠ 3 → u = ⟨#[]⟩ := fun hk => by
    rw [strE_other hk] at g2
    by_cases e : u.data.toList = []
    · exact WideShapes.bytes_inj e
    · rw [if_neg e] at g2; omega
  rcases num_ok g1 with ⟨rfl, b1, b2⟩ | ⟨rfl, g⟩ | ⟨rfl, rfl⟩ | ⟨rfl, rfl⟩ | ⟨rfl, b1, b2⟩
  · obtain rfl := hu (by decide)
    have e : showL 1 z (ByteArray.mk #[]).data.toList = Lib.itoa z := by simp [showL]
    rw [e] at h2
    refine ⟨3, by omega, rfl, ?_, rfl⟩
    exact HN z (by rw [← h2]; exact atoiAll_itoa z b1 b2)
  · obtain rfl := hu (by decide)
    rcases g with rfl | rfl
    · exact ⟨1, by omega, rfl, rfl, rfl⟩
    · exact ⟨2, by omega, rfl, rfl, rfl⟩
  · refine ⟨5, by omega, rfl, rfl, ?_⟩
    have e : showL 3 0 u.data.toList = 34 :: (escL u.data.toList ++ [34]) := by simp [showL, quoteL]
    rw [e] at h2
    apply WideShapes.bytes_inj
    show t.data.toList = u.data.toList
    rw [HT, ← h2]
    exact txt_esc _
  · obtain rfl := hu (by decide)
    exact ⟨0, by omega, rfl, rfl, rfl⟩
  · obtain rfl := hu (by decide)
    have e : showL 5 z (ByteArray.mk #[]).data.toList = 33 :: Lib.itoa z := by simp [showL]
    rw [e] at h2
    refine ⟨4, by omega, rfl, ?_, rfl⟩
    rcases HM with ⟨g, _⟩ | ⟨_, g⟩
    · rw [← len_size, ← h2] at g; simp at g
    · exact g z (by rw [← h2]; exact atoiAll_itoa z (by omega) (by omega))

/-- ValueText at a candidate: it is shown as s, or not. -/
theorem text_at (s : ByteArray) (k n : Int) (u : ByteArray) : ∃ (v : ByteArray) (q : Int), (∀ W : World, Pow W → Calls Tryd.prog 8 #[.agg #[.int .i64 k, .int .i64 n, .string u]] W fun e w' => e = .returned (.tuple #[.string v, .int .i64 q]) ∧ Below W.heap.size W w') ∧
    ((isIt s k n u ∧ v = s ∧ q = 0) ∨ (¬ isIt s k n u ∧ ((q == 0) = false ∨ ((q == 0) = true ∧ (v.toList == s.toList) = false ∧ (s.size = 0 → v.toList.isEmpty = false))))) := by
  by_cases g : valE k n u.data.toList = 0
  · refine ⟨_, 0, fun W hp => text_good _ _ _ W g hp, ?_⟩
    by_cases e : showL k n u.data.toList = s.data.toList
    · exact .inl ⟨⟨g, e⟩, WideShapes.bytes_inj (by rw [← e]), rfl⟩
    · refine .inr ⟨fun h => e h.2, .inr ⟨rfl, ?_, fun h0 => ?_⟩⟩
      · rw [ByteArray.toList_eq, ByteArray.toList_eq]
        exact beq_eq_false_iff_ne.2 e
      · rw [ByteArray.toList_eq]
        rw [nil_of_size s h0] at e
        exact List.isEmpty_eq_false_iff.2 e
  · exact ⟨_, _, fun W _ => text_bad _ _ _ W g, .inr ⟨fun h => g h.1, .inl (beq_eq_false_iff_ne.2 g)⟩⟩

theorem atoi_some (s : ByteArray) (hs : s.size ≤ 140737488351232) : ∃ (n : Int), (∀ v, Lib.atoiAll s.data.toList = .ok v → n = v) ∧
    ∀ w : World, Vars w → Calls Tryd.prog 20 #[.string s] w fun e w' => (∃ x, e = .returned (.tuple #[.int .i64 n, x])) ∧ Below w.heap.size w w' := by
  rcases end_cases (Lib.atoiAll s.data.toList) with ⟨n, ha⟩ | ha | ha
  · refine ⟨n, (fun v h => by rw [ha] at h; cases h; rfl), fun w hv => (Tryd.strconv_Atoi_ok s (by omega) n ha w).mono fun e w' hh => ⟨⟨_, hh.1⟩, ?_⟩⟩
    rcases hh.2 with rfl | ⟨t, rfl⟩
    · exact Below.refl _ _
    · exact Lib.bytesWorld_below _ _ _
  · refine ⟨0, (fun v h => by rw [ha] at h; cases h), fun w hv => ?_⟩
    obtain ⟨p, hp⟩ := hv.syn
    refine (Tryd.strconv_Atoi_syntax_var s (by omega) ha _ p _ hp).mono ?_
    rintro e w' ⟨N, h1, _, _, h2⟩
    exact ⟨⟨_, h1⟩, h2⟩
  · refine ⟨Lib.atoiSat s.data.toList, (fun v h => by rw [ha] at h; cases h), fun w hv => ?_⟩
    obtain ⟨q, hq⟩ := hv.ran
    refine (Tryd.strconv_Atoi_range_var s (by omega) ha _ q _ hq).mono ?_
    rintro e w' ⟨N, h1, _, _, h2⟩
    exact ⟨⟨_, h1⟩, h2⟩

set_option maxHeartbeats 1000000 in
theorem valueOf_any (s : ByteArray) (w : World) (hs : s.size ≤ 140737488351232) (hv : Vars w) (j z mm : Int) (t' : ByteArray) (hgood : ∀ k n u, isIt s k n u → k = j ∧ n = z ∧ u = t' ∧ mm = 0) (hnone : (∀ k n u, ¬ isIt s k n u) → j = 0 ∧ z = 0 ∧ t' = ⟨#[]⟩ ∧ mm = 3) :
    Calls Tryd.prog 10 #[.string s] w fun e w' => e = .returned (.tuple #[.agg #[.int .i64 j, .int .i64 z, .string t'], .int .i64 mm]) ∧ Below w.heap.size w w' := by
  have HG := Lib.hid hgood
  have HO := Lib.hid hnone
  clear hgood hnone
  have HV := Lib.hid hv
  have h0 : TxInv s 1 ⟨#[]⟩ := ⟨Nat.le_refl _, rfl, Nat.zero_le _⟩
  have H0 := Lib.hid h0
  clear hv h0
  go_enter Tryd.func10, Tryd.ntmps10
  go_wp2_with fail
  go_loop [4, 5] (fun v i => ∃ (k : Nat) (t : ByteArray), i = .int .i64 k ∧ v = .string t ∧ k ≤ s.size + 1 ∧ TxInv s k t) (fun _ i => s.size + 1 - (intOf i).toNat)
  case atStart => exact ⟨1, ⟨#[]⟩, rfl, rfl, by omega, H0.out⟩
  case round =>
    obtain ⟨k, t, rfl, rfl, hle, hI⟩ := hrel
    have hk := hI.le
    have htl := hI.len
    have HI := Lib.hid hI
    clear hI
    by_cases hlt : k + 1 < s.size
    · by_cases h92 : s[k] = 92
      · have t1 : ((s[k].toNat : Int) == 92) = true := by rw [h92]; rfl
        by_cases hl2 : k + 2 < s.size
        · obtain ⟨x1, x2⟩ := extract_one s (k + 1) (by omega)
          have hN : TxInv s (k + 2) (t ++ s.extract (k + 1) (k + 1 + 1)) := ⟨by omega, by
            rw [ByteArray.data_append, Array.toList_append, x1, ← HI.out.is, txt_step2 s k hl2 h92]; simp, by
            rw [ByteArray.size_append]; omega⟩
          have HN := Lib.hid hN
          clear hN x1 h92
          go_wp2
          go_round
          case rel => exact ⟨k + 2, _, by go_num, rfl, by omega, HN.out⟩
          case measure => simp [intOf]; omega
        · obtain ⟨x1, x2⟩ := extract_one s k (by omega)
          have hN : TxInv s (k + 1) (t ++ s.extract k (k + 1)) := ⟨by omega, by
            rw [ByteArray.data_append, Array.toList_append, x1, ← HI.out.is, txt_step1 s k hlt (fun g => hl2 g.2)]; simp, by
            rw [ByteArray.size_append]; omega⟩
          have HN := Lib.hid hN
          clear hN x1 h92
          go_wp2
          go_round
          case rel => exact ⟨k + 1, _, by go_num, rfl, by omega, HN.out⟩
          case measure => simp [intOf]; omega
      · have t1 : ((s[k].toNat : Int) == 92) = false := by
          rw [beq_eq_false_iff_ne]; intro g; exact h92 ((byte_eq s[k] 92 (by decide)).2 (by omega))
        obtain ⟨x1, x2⟩ := extract_one s k (by omega)
        have hN : TxInv s (k + 1) (t ++ s.extract k (k + 1)) := ⟨by omega, by
          rw [ByteArray.data_append, Array.toList_append, x1, ← HI.out.is, txt_step1 s k hlt (fun g => h92 g.1)]; simp, by
          rw [ByteArray.size_append]; omega⟩
        have HN := Lib.hid hN
        clear hN x1 h92
        go_wp2
        go_round
        case rel => exact ⟨k + 1, _, by go_num, rfl, by omega, HN.out⟩
        case measure => simp [intOf]; omega
    · have ht : t.data.toList = txt (s.data.toList.drop 1) := by have := HI.out.is; rw [txt_stop s k (by omega), List.append_nil] at this; exact this
      have HT := Lib.hid ht
      clear ht
      clear HI htl hk
      obtain ⟨n, hn, cn⟩ := atoi_some s hs
      have CN := Lib.hid cn
      have HN := Lib.hid hn
      obtain ⟨m, hm, cm⟩ : ∃ m : Int, ((s.size = 0 ∧ m = 0) ∨ (1 ≤ s.size ∧ ∀ v, Lib.atoiAll s.data.toList.tail = .ok v → m = v)) ∧ (1 ≤ s.size → ∀ w : World, Vars w → Calls Tryd.prog 20 #[.string (s.extract 1 s.size)] w fun e w' => (∃ x, e = .returned (.tuple #[.int .i64 m, x])) ∧ Below w.heap.size w w') := by
        by_cases g : s.size = 0
        · exact ⟨0, .inl ⟨g, rfl⟩, fun h => by omega⟩
        · obtain ⟨m, h1, h2⟩ := atoi_some (s.extract 1 s.size) (by simp; omega)
          rw [tail_of] at h1
          exact ⟨m, .inr ⟨by omega, h1⟩, fun _ => h2⟩
      have HM := Lib.hid hm
      have CM := Lib.hid cm
      clear hn cn hm cm
      go_wp2_with fail
      refine (CN.out _ (HV.out.below (b_new w _))).mono ?_; rintro e w1 ⟨⟨x, rfl⟩, hb1⟩
      have V1 := Lib.hid (HV.out.below (b_then hb1))
      have d1 := bcell hb1
      have z1 := zlt hb1
      by_cases h0 : s.size = 0
      · have hs0 : s = ⟨#[]⟩ := ByteArray.size_eq_zero_iff.1 h0
        subst hs0
        have hm0 : m = 0 := by rcases HM.out with ⟨_, g⟩ | ⟨g, _⟩; exact g; exact absurd g (by decide)
        subst hm0
        go_wp2_with fail
        have HL0 := Lib.hid (LInv.start w w1 n 0 t ⟨#[]⟩ hb1)
        unfold tab at HL0
        go_loopw [10, 11, 12, 64] (fun _ _ _ i wr => ∃ k : Nat, i = .int .i64 k ∧ LInv w w1.heap.size n 0 t ⟨#[]⟩ k wr) (fun _ _ _ i _ => 6 - (intOf i).toNat)
        case atStart => exact ⟨0, rfl, HL0.out⟩
        case round =>
          obtain ⟨k2, rfl, hL⟩ := hrel
          have hle2 := hL.le
          by_cases hk2 : k2 < 6
          · obtain ⟨e0, e1, e2⟩ := hL.cells k2 hk2
            obtain ⟨v, q, hT, hd⟩ := text_at ⟨#[]⟩ (cK k2) (cN n 0 k2) (cS t k2)
            have HD := Lib.hid (And.intro (fun h => HG.out (cK k2) (cN n 0 k2) (cS t k2) h) (fun (h : ¬ isIt ⟨#[]⟩ (cK k2) (cN n 0 k2) (cS t k2)) w2 hb => hL.step (w2 := w2) hk2 hb h))
            obtain ⟨ck, hck⟩ : ∃ ck, cK k2 = ck := ⟨_, rfl⟩
            obtain ⟨cn, hcn⟩ : ∃ cn, cN n 0 k2 = cn := ⟨_, rfl⟩
            obtain ⟨cs, hcs⟩ : ∃ cs, cS t k2 = cs := ⟨_, rfl⟩
            rw [hck] at e0
            rw [hcn] at e1
            rw [hcs] at e2
            rw [hck, hcn, hcs] at hT hd HD
            clear hck hcn hcs
            have HT2 := Lib.hid hT
            have r0 := hL.r0
            have r1 := hL.r1
            have r2 := hL.r2
            have hlt2 := hL.lt
            have hfr := hL.free
            have hbl := hL.below
            have VR := Lib.hid (HV.out.below hbl)
            clear hT hL
            rcases hd with ⟨hit, rfl, rfl⟩ | ⟨hno, hq⟩
            · obtain ⟨rfl, rfl, rfl, rfl⟩ := HD.out.1 hit
              clear hit HD
              go_wp2_with fail
              refine (HT2.out _ (VR.out.below (b_new wr _)).pow).mono ?_; rintro e w2 ⟨rfl, hb2⟩
              obtain ⟨c2, d2⟩ := bcell hb2
              have z2 := zlt hb2
              have hz2 : w.heap.size < w2.heap.size := z2 _ (by simp; omega)
              have hz3 : wr.heap.size < w2.heap.size := z2 _ (by simp)
              have hz4 := Nat.lt_succ_of_lt hlt2
              go_wp2_with fail
              refine bodyPost_ret (v := .tuple #[.agg #[.int .i64 _, .int .i64 _, .string _], .int .i64 0]) (by simp [results, Tryd.results10, go_sem, c2, hz4, hlt2, r0, r1, r2]) rfl ⟨rfl, ?_⟩
              exact b_set3 (b_trans hbl (b_then hb2)) _ (Nat.le_refl _) _ _ _
            · rcases hq with hq | ⟨hq, hq2, hq3⟩
              rotate_left; have hq4 := hq3 rfl; rotate_right
              all_goals
                go_wp2_with fail
                refine (HT2.out _ (VR.out.below (b_new wr _)).pow).mono ?_; rintro e w2 ⟨rfl, hb2⟩
                have HS2 := Lib.hid (HD.out.2 hno w2 (b_then hb2))
                clear hno hbl
                go_wp2
                go_roundw
                case rel => exact ⟨k2 + 1, by go_num, HS2.out⟩
                case measure => simp [intOf]; omega
          · have hno : ∀ a b c, ¬ isIt ⟨#[]⟩ a b c := fun a b c h => by
              obtain ⟨i, hi, rfl, rfl, rfl⟩ := among _ t n 0 HN.out (.inl ⟨rfl, rfl⟩) HT.out a b c h
              exact hL.no i (by omega) h
            obtain ⟨rfl, rfl, rfl, rfl⟩ := HO.out hno
            have r0 := hL.r0
            have r1 := hL.r1
            have r2 := hL.r2
            have hfr := hL.free
            have hlt2 := hL.lt
            have hbl := hL.below
            clear hno hL
            go_wp2_with fail
            refine bodyPost_ret (v := .tuple #[.agg #[.int .i64 0, .int .i64 0, .string ⟨#[]⟩], .int .i64 3]) (by simp [results, Tryd.results10, go_sem, r0, r1, r2]) rfl ⟨rfl, ?_⟩
            exact b_set3 hbl _ (Nat.le_refl _) _ _ _
      · obtain ⟨f1, f2⟩ := Val.empty_b s (by omega)
        have hpos : 1 ≤ s.size := by omega
        have CM2 := Lib.hid (CM.out hpos)
        clear CM
        go_wp2_with fail
        refine (CM2.out _ V1.out).mono ?_; rintro e w3 ⟨⟨x2, rfl⟩, hb3⟩
        have hb13 := hb1.trans (hb3.mono hb1.size)
        go_wp2_with fail
        have HL0 := Lib.hid (LInv.start w w3 n m t s hb13)
        unfold tab at HL0
        go_loopw [10, 11, 12, 64] (fun _ _ _ i wr => ∃ k : Nat, i = .int .i64 k ∧ LInv w w3.heap.size n m t s k wr) (fun _ _ _ i _ => 6 - (intOf i).toNat)
        case atStart => exact ⟨0, rfl, HL0.out⟩
        case round =>
          obtain ⟨k2, rfl, hL⟩ := hrel
          have hle2 := hL.le
          by_cases hk2 : k2 < 6
          · obtain ⟨e0, e1, e2⟩ := hL.cells k2 hk2
            obtain ⟨v, q, hT, hd⟩ := text_at s (cK k2) (cN n m k2) (cS t k2)
            have HD := Lib.hid (And.intro (fun h => HG.out (cK k2) (cN n m k2) (cS t k2) h) (fun (h : ¬ isIt s (cK k2) (cN n m k2) (cS t k2)) w2 hb => hL.step (w2 := w2) hk2 hb h))
            obtain ⟨ck, hck⟩ : ∃ ck, cK k2 = ck := ⟨_, rfl⟩
            obtain ⟨cn, hcn⟩ : ∃ cn, cN n m k2 = cn := ⟨_, rfl⟩
            obtain ⟨cs, hcs⟩ : ∃ cs, cS t k2 = cs := ⟨_, rfl⟩
            rw [hck] at e0
            rw [hcn] at e1
            rw [hcs] at e2
            rw [hck, hcn, hcs] at hT hd HD
            clear hck hcn hcs
            have HT2 := Lib.hid hT
            have r0 := hL.r0
            have r1 := hL.r1
            have r2 := hL.r2
            have hlt2 := hL.lt
            have hfr := hL.free
            have hbl := hL.below
            have VR := Lib.hid (HV.out.below hbl)
            clear hT hL
            rcases hd with ⟨hit, rfl, rfl⟩ | ⟨hno, hq⟩
            · obtain ⟨rfl, rfl, rfl, rfl⟩ := HD.out.1 hit
              clear hit HD
              go_wp2_with fail
              refine (HT2.out _ (VR.out.below (b_new wr _)).pow).mono ?_; rintro e w2 ⟨rfl, hb2⟩
              obtain ⟨c2, d2⟩ := bcell hb2
              have z2 := zlt hb2
              have hz2 : w.heap.size < w2.heap.size := z2 _ (by simp; omega)
              have hz3 : wr.heap.size < w2.heap.size := z2 _ (by simp)
              have hz4 := Nat.lt_succ_of_lt hlt2
              go_wp2_with fail
              refine bodyPost_ret (v := .tuple #[.agg #[.int .i64 _, .int .i64 _, .string _], .int .i64 0]) (by simp [results, Tryd.results10, go_sem, c2, hz4, hlt2, r0, r1, r2]) rfl ⟨rfl, ?_⟩
              exact b_set3 (b_trans hbl (b_then hb2)) _ (Nat.le_refl _) _ _ _
            · rcases hq with hq | ⟨hq, hq2, hq3⟩
              all_goals
                go_wp2_with fail
                refine (HT2.out _ (VR.out.below (b_new wr _)).pow).mono ?_; rintro e w2 ⟨rfl, hb2⟩
                have HS2 := Lib.hid (HD.out.2 hno w2 (b_then hb2))
                clear hno hbl
                go_wp2
                go_roundw
                case rel => exact ⟨k2 + 1, by go_num, HS2.out⟩
                case measure => simp [intOf]; omega
          · have hno : ∀ a b c, ¬ isIt s a b c := fun a b c h => by
              obtain ⟨i, hi, rfl, rfl, rfl⟩ := among _ t n m HN.out HM.out HT.out a b c h
              exact hL.no i (by omega) h
            obtain ⟨rfl, rfl, rfl, rfl⟩ := HO.out hno
            have r0 := hL.r0
            have r1 := hL.r1
            have r2 := hL.r2
            have hfr := hL.free
            have hlt2 := hL.lt
            have hbl := hL.below
            clear hno hL
            go_wp2_with fail
            refine bodyPost_ret (v := .tuple #[.agg #[.int .i64 0, .int .i64 0, .string ⟨#[]⟩], .int .i64 3]) (by simp [results, Tryd.results10, go_sem, r0, r1, r2]) rfl ⟨rfl, ?_⟩
            exact b_set3 hbl _ (Nat.le_refl _) _ _ _
end Go.Proofs.YtlcilibelbmeeaaDoor.ParseRef
