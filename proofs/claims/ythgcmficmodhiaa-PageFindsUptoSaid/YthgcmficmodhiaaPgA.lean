/- Package page: Find, Of; the reference's PageAt, PageOf. -/
import Derived.Test.YthgcmficmodhiaaPg
import Derived.RegionTactic
import Derived.BigQuiet
import Derived.Deep.QuietTactic
namespace Go.Proofs.Ythgcmficmodhiaa.PgA
open Go.RowKit
open ValM LexM NumM ExM NmM Kit ExL ExP ExV NmC NmP NmA NmT RawV Within GenL FldP FrmM PgM
set_option linter.unusedVariables false

/-! ### texts -/
set_option maxHeartbeats 1000000 in
theorem indexT_any (L : List ByteArray) (s : ByteArray) (A : Option Addr) (c : Nat) (w : World) (hn : L.length ≤ maxLen) (h : TRow w A L) :
    Calls Try.prog 21 #[.slice A L.length c, .string s] w fun e w' => (∃ k : Int, e = .returned (.int .i64 k) ∧ decide (0 ≤ k) = hasB L s) ∧ w = w' := by
  obtain ⟨R, hR⟩ : ∃ R, hasB L s = R := ⟨_, rfl⟩
  rw [hR]
  have HR := Lib.hid hR
  have HH := Lib.hid h
  clear hR h
  unfold maxLen at hn
  go_enter Try.func21, Try.ntmps21
  go_wp2_with fail
  go_loopw [5, 8] (fun _ i wr => ∃ k : Nat, k ≤ L.length ∧ i = .int .i64 k ∧ wr = w ∧ hasB (L.take k) s = false) (fun _ i _ => L.length - (intOf i).toNat)
  case atStart => exact ⟨0, by omega, rfl, rfl, rfl⟩
  case round =>
    obtain ⟨k, hk, rfl, rfl, hf⟩ := hrel
    by_cases hlt : k < L.length
    · obtain ⟨a, rfl, hc⟩ := HH.out k hlt
      obtain ⟨t, ht⟩ : ∃ t, L[k] = t := ⟨_, rfl⟩
      have hsn := hasB_take L s k hlt
      rw [hf, Bool.false_or] at hsn
      rw [ht] at hc hsn
      clear hf ht
      by_cases he : t = s
      · have t1 : (s.toList == t.toList) = true := by rw [eqs_of]; exact decide_eq_true he.symm
        rw [decide_eq_true he] at hsn
        obtain rfl : R = true := by rw [← HR.out]; exact hasB_of_take hsn
        clear hsn he
        go_wp2_with fail
        go_ret
        exact ⟨⟨_, rfl, by simp⟩, rfl⟩
      · have t1 : (s.toList == t.toList) = false := by rw [eqs_of]; exact decide_eq_false (fun e => he e.symm)
        rw [decide_eq_false he] at hsn
        have HSn := Lib.hid hsn
        clear hsn he
        go_wp2_with fail
        go_roundw
        case rel => exact ⟨k + 1, by omega, by go_num, by first | trivial | rfl, HSn.out⟩
        case measure => simp [intOf]; omega
    · have hkl : k = L.length := by omega
      obtain rfl : R = false := by rw [← HR.out, ← hf, hkl, List.take_length]
      clear hkl hf
      go_wp2_with fail
      go_ret
      exact ⟨⟨_, rfl, by decide⟩, rfl⟩
set_option maxHeartbeats 1000000 in
theorem containsT_any (L : List ByteArray) (s : ByteArray) (A : Option Addr) (c : Nat) (w : World) (hn : L.length ≤ maxLen) (h : TRow w A L) :
    Calls Try.prog 11 #[.slice A L.length c, .string s] w fun e w' => e = .returned (.bool (hasB L s)) ∧ w = w' := by
  have hc := indexT_any L s A c w hn h
  obtain ⟨R, hR⟩ : ∃ R, hasB L s = R := ⟨_, rfl⟩
  rw [hR] at hc ⊢
  have HC := Lib.hid hc
  clear hc hR h
  go_enter Try.func11, Try.ntmps11
  go_wp2_with fail
  refine HC.out.mono ?_; rintro e w1 ⟨⟨k, rfl, rfl⟩, rfl⟩
  go_wp2_with fail
  go_ret
  exact ⟨rfl, rfl⟩
set_option maxHeartbeats 1000000 in
theorem holdsT_any (L : List ByteArray) (s : ByteArray) (A : Option Addr) (c : Nat) (w : World) (hn : L.length ≤ maxLen) (h : TRow w A L) :
    Calls Try.prog 13 #[.slice A L.length c, .string s] w fun e w' => e = .returned (.bool (hasB L s)) ∧ w = w' := by
  obtain ⟨R, hR⟩ : ∃ R, hasB L s = R := ⟨_, rfl⟩
  rw [hR]
  have HR := Lib.hid hR
  have HH := Lib.hid h
  clear hR h
  unfold maxLen at hn
  go_enter Try.func13, Try.ntmps13
  go_wp2_with fail
  go_loopw [6, 9] (fun _ i wr => ∃ k : Nat, k ≤ L.length ∧ i = .int .i64 k ∧ wr = w ∧ hasB (L.take k) s = false) (fun _ i _ => L.length - (intOf i).toNat)
  case atStart => exact ⟨0, by omega, rfl, rfl, rfl⟩
  case round =>
    obtain ⟨k, hk, rfl, rfl, hf⟩ := hrel
    by_cases hlt : k < L.length
    · obtain ⟨a, rfl, hc⟩ := HH.out k hlt
      obtain ⟨t, ht⟩ : ∃ t, L[k] = t := ⟨_, rfl⟩
      have hsn := hasB_take L s k hlt
      rw [hf, Bool.false_or] at hsn
      rw [ht] at hc hsn
      clear hf ht
      by_cases he : t = s
      · have t1 : (t.toList == s.toList) = true := by rw [eqs_of]; exact decide_eq_true he
        rw [decide_eq_true he] at hsn
        obtain rfl : R = true := by rw [← HR.out]; exact hasB_of_take hsn
        clear hsn he
        go_wp2_with fail
        go_ret
        exact ⟨rfl, rfl⟩
      · have t1 : (t.toList == s.toList) = false := by rw [eqs_of]; exact decide_eq_false he
        rw [decide_eq_false he] at hsn
        have HSn := Lib.hid hsn
        clear hsn he
        go_wp2_with fail
        go_roundw
        case rel => exact ⟨k + 1, by omega, by go_num, by first | trivial | rfl, HSn.out⟩
        case measure => simp [intOf]; omega
    · have hkl : k = L.length := by omega
      obtain rfl : R = false := by rw [← HR.out, ← hf, hkl, List.take_length]
      clear hkl hf
      go_wp2_with fail
      go_ret
      exact ⟨rfl, rfl⟩
/-! ### Find -/
def firstE (n k : Nat) : Value := .tuple #[.int .i64 (if k < n then (k : Int) else 0), .int .i64 (if k < n then 0 else 5)]
/-! ### Of -/
set_option maxHeartbeats 1000000 in
theorem ofC_any (s : ByteArray) (B : Nat) (e : PE) (W : World) (hB : W.cell? ⟨B, 0, none⟩ = some (.string s)) (hr : TRow W e.F e.fs) (hl : e.fs.length ≤ maxLen) :
    Calls Try.prog 10 #[.agg #[.string e.nm, .slice e.F e.fs.length e.fc, .int .i64 e.x.d.op, .int .i64 e.x.d.k, .int .i64 e.x.d.n, .string e.x.d.s, .string e.x.d.nm, .slice e.B e.m e.c], .pointer (some ⟨B, 0, none⟩)] W fun r w' => r = .returned (.bool (onP s e)) ∧ Below W.heap.size W w' := by
  have hb := b_new W (pgBox e)
  have hBl := World.block_lt_of_cell? W _ hB
  have hB1 := (hb.cell (p := ⟨B, 0, none⟩) hBl).trans hB
  have hc := containsT_any e.fs s e.F e.fc (W.alloc (pgBox e)) hl (hr.below hb)
  unfold onP
  have HC := Lib.hid hc
  have HB := Lib.hid hb
  unfold pgBox at hB1 HB HC
  generalize hasB e.fs s = bb at HC ⊢
  clear hb hc hr
  go_enter Try.func10, Try.ntmps10
  go_wp2_with fail
  refine HC.out.mono ?_; rintro r w1 ⟨rfl, rfl⟩
  go_wp2_with fail
  go_ret
  exact ⟨rfl, HB.out⟩
set_option maxHeartbeats 2000000 in
theorem indexOf_any (s : ByteArray) (B : Nat) (ps : List PE) (A : Option Addr) (c : Nat) (W : World) (hB : W.cell? ⟨B, 0, none⟩ = some (.string s)) (hn : ps.length ≤ maxLen) (h : Pgs W A ps) (ho : PgsOk W ps) :
    Calls Try.prog 20 #[.slice A ps.length c, .func (.func 10) #[] #[.pointer (some ⟨B, 0, none⟩)]] W fun r w' => r = .returned (.int .i64 (if pOf ps s < ps.length then (pOf ps s : Int) else -1)) ∧ Below W.heap.size W w' := by
  obtain ⟨R, hR⟩ : ∃ R : Int, (if pOf ps s < ps.length then (pOf ps s : Int) else -1) = R := ⟨_, rfl⟩
  have hgood : ∀ k (hk : k < ps.length), (∀ j (hj : j < ps.length), j < k → onP s ps[j] = false) → onP s ps[k] = true → R = (k : Int) := fun k hk h he => by
    have e : pOf ps s = k := fi_hit hk h he
    rw [← hR, e, if_pos hk]
  have hbad : (∀ j (hj : j < ps.length), onP s ps[j] = false) → R = -1 := fun h => by
    have e : pOf ps s = ps.length := fi_none h
    rw [← hR, e, if_neg (Nat.lt_irrefl _)]
  rw [hR]
  have hcl := fun (e : PE) (he : e ∈ ps) (V : World) (hV : Below W.heap.size W V) => ofC_any s B e V ((hV.cell (p := ⟨B, 0, none⟩) (World.block_lt_of_cell? W _ hB)).trans hB) ((ho e he).row.below hV) (ho e he).len
  have HG := Lib.hid hgood
  have HBd := Lib.hid hbad
  have HP := Lib.hid h
  have HC := Lib.hid hcl
  clear hgood hbad hR h hB hcl ho
  unfold maxLen at hn
  go_enter Try.func20, Try.ntmps20
  go_wp2_with fail
  go_loopw [5, 8] (fun _ i wr => ∃ (k : Nat), i = .int .i64 k ∧ k ≤ ps.length ∧ (∀ j (hj : j < ps.length), j < k → onP s ps[j] = false) ∧ Below W.heap.size W wr) (fun _ i _ => ps.length - (intOf i).toNat)
  case atStart => exact ⟨0, rfl, Nat.zero_le _, fun j hj hjk => absurd hjk (by omega), Below.refl _ _⟩
  case round =>
    obtain ⟨k, rfl, hk, hall, hb⟩ := hrel
    by_cases hlt : k < ps.length
    · obtain ⟨a, rfl, hat⟩ := HP.out k hlt
      obtain ⟨q0, q1, q2, q3, q4, q5, q6, q7⟩ := hat.of_block (hb.block _ hat.lt)
      have hg := HG.out k hlt hall
      have hnext : onP s ps[k] = false → ∀ j (hj : j < ps.length), j < k + 1 → onP s ps[j] = false := fun e j hj hjk => by
        rcases Nat.lt_or_ge j k with h | h
        · exact hall j hj h
        · obtain rfl : j = k := by omega
          exact e
      obtain ⟨e, hek⟩ : ∃ e, ps[k] = e := ⟨_, rfl⟩
      rw [hek] at q0 q1 q2 q3 q4 q5 q6 q7 hg hnext
      have hc := HC.out e (by rw [← hek]; exact List.getElem_mem hlt) wr hb
      have HC1 := Lib.hid hc
      have HG2 := Lib.hid hg
      have HN := Lib.hid hnext
      have HBl := Lib.hid hb
      clear hg hnext hall hek hat hb hc
      generalize onP s e = bb at HC1 HG2 HN
      go_wp2_with fail
      refine HC1.out.mono ?_; rintro r w1 ⟨rfl, hb1⟩
      have HB1 := Lib.hid (b_trans HBl.out hb1)
      clear hb1
      cases bb with
      | true =>
        obtain rfl := HG2.out rfl
        go_wp2_with fail
        go_ret
        exact ⟨rfl, HB1.out⟩
      | false =>
        have HN2 := Lib.hid (HN.out rfl)
        go_wp2_with fail
        go_roundw
        case rel => exact ⟨k + 1, by go_num, by omega, HN2.out, HB1.out⟩
        case measure => simp [intOf]; omega
    · obtain rfl := HBd.out fun j hj => hall j hj (by omega)
      have HBl := Lib.hid hb
      clear hall hb
      go_wp2_with fail
      go_ret
      exact ⟨rfl, HBl.out⟩
set_option maxHeartbeats 1000000 in
theorem firstOf_any (s : ByteArray) (B : Nat) (ps : List PE) (A : Option Addr) (c : Nat) (W : World) (hB : W.cell? ⟨B, 0, none⟩ = some (.string s)) (hn : ps.length ≤ maxLen) (h : Pgs W A ps) (ho : PgsOk W ps) :
    Calls Try.prog 9 #[.slice A ps.length c, .func (.func 10) #[] #[.pointer (some ⟨B, 0, none⟩)]] W fun r w' => r = .returned (firstE ps.length (pOf ps s)) ∧ Below W.heap.size W w' := by
  have hc := indexOf_any s B ps A c W hB hn h ho
  unfold firstE
  generalize pOf ps s = k at hc ⊢
  have HC := Lib.hid hc
  clear hc h hB ho
  by_cases hk : k < ps.length
  · rw [if_pos hk] at HC
    rw [if_pos hk, if_pos hk]
    have t1 : ¬ (k : Int) < 0 := by omega
    clear hk
    go_enter Try.func9, Try.ntmps9
    go_wp2_with fail
    refine HC.out.mono ?_; rintro r w1 ⟨rfl, hb1⟩
    have HB1 := Lib.hid hb1
    clear hb1
    go_wp2_with fail
    go_ret2
    exact ⟨rfl, HB1.out⟩
  · rw [if_neg hk] at HC
    rw [if_neg hk, if_neg hk]
    clear hk
    go_enter Try.func9, Try.ntmps9
    go_wp2_with fail
    refine HC.out.mono ?_; rintro r w1 ⟨rfl, hb1⟩
    have HB1 := Lib.hid hb1
    clear hb1
    go_wp2_with fail
    go_ret2
    exact ⟨rfl, HB1.out⟩
set_option maxHeartbeats 1000000 in
theorem of_any (s : ByteArray) (ps : List PE) (A : Option Addr) (c : Nat) (w : World) (hn : ps.length ≤ maxLen) (h : Pgs w A ps) (ho : PgsOk w ps) :
    Calls Try.prog 4 #[.slice A ps.length c, .string s] w fun r w' => r = .returned (firstE ps.length (pOf ps s)) ∧ Below w.heap.size w w' := by
  have hb := b_new w (.cells #[.string s] 9)
  have hB : (w.alloc (.cells #[.string s] 9)).cell? ⟨w.heap.size, 0, none⟩ = some (.string s) := by unfold World.cell?; rw [World.alloc_heap_new]; rfl
  have hc := firstOf_any s w.heap.size ps A c _ hB hn (h.below hb) (ho.below hb)
  unfold firstE at hc ⊢
  have HC := Lib.hid hc
  have HB := Lib.hid hb
  generalize (if pOf ps s < ps.length then (pOf ps s : Int) else 0) = r1 at HC ⊢
  generalize (if pOf ps s < ps.length then (0 : Int) else 5) = r2 at HC ⊢
  clear hc hb hB h ho
  go_enter Try.func4, Try.ntmps4
  go_wp2_with fail
  refine HC.out.mono ?_; rintro r w1 ⟨rfl, hb1⟩
  have HB1 := Lib.hid (b_trans HB.out hb1)
  clear hb1
  go_wp2_with fail
  go_ret2
  exact ⟨rfl, HB1.out⟩
set_option maxHeartbeats 2000000 in
theorem pageOf_any (s : ByteArray) (ps : List PE) (A : Option Addr) (c : Nat) (w : World) (hn : ps.length ≤ maxLen) (h : Pgs w A ps) (ho : PgsOk w ps) :
    Calls Try.prog 6 #[.slice A ps.length c, .string s] w fun r w' => r = .returned (.int .i64 (pOf ps s : Int)) ∧ Below w.heap.size w w' := by
  obtain ⟨R, hR⟩ : ∃ R : Int, (pOf ps s : Int) = R := ⟨_, rfl⟩
  have hgood : ∀ k (hk : k < ps.length), (∀ j (hj : j < ps.length), j < k → onP s ps[j] = false) → onP s ps[k] = true → R = (k : Int) := fun k hk h he => by
    have e : pOf ps s = k := fi_hit hk h he
    rw [← hR, e]
  have hbad : (∀ j (hj : j < ps.length), onP s ps[j] = false) → R = (ps.length : Int) := fun h => by
    have e : pOf ps s = ps.length := fi_none h
    rw [← hR, e]
  rw [hR]
  have HG := Lib.hid hgood
  have HBd := Lib.hid hbad
  have HP := Lib.hid h
  have HO := Lib.hid ho
  clear hgood hbad hR h ho
  unfold maxLen at hn
  go_enter Try.func6, Try.ntmps6
  go_wp2_with fail
  go_loopw [5, 6, 9] (fun _ _ i wr => ∃ (k : Nat), i = .int .i64 k ∧ k ≤ ps.length ∧ (∀ j (hj : j < ps.length), j < k → onP s ps[j] = false) ∧ Below w.heap.size w wr) (fun _ _ i _ => ps.length - (intOf i).toNat)
  case atStart => exact ⟨0, rfl, Nat.zero_le _, fun j hj hjk => absurd hjk (by omega), Below.refl _ _⟩
  case round =>
    obtain ⟨k, rfl, hk, hall, hb⟩ := hrel
    by_cases hlt : k < ps.length
    · obtain ⟨a, rfl, hat⟩ := HP.out k hlt
      obtain ⟨q0, q1, q2, q3, q4, q5, q6, q7⟩ := hat.of_block (hb.block _ hat.lt)
      have hg := HG.out k hlt hall
      have hnext : onP s ps[k] = false → ∀ j (hj : j < ps.length), j < k + 1 → onP s ps[j] = false := fun e j hj hjk => by
        rcases Nat.lt_or_ge j k with h | h
        · exact hall j hj h
        · obtain rfl : j = k := by omega
          exact e
      obtain ⟨e, hek⟩ : ∃ e, ps[k] = e := ⟨_, rfl⟩
      rw [hek] at q0 q1 q2 q3 q4 q5 q6 q7 hg hnext
      have hoe := (HO.out e (by rw [← hek]; exact List.getElem_mem hlt)).below hb
      have hb5 := b_new wr (pgBox e)
      have hh := holdsT_any e.fs s e.F e.fc (wr.alloc (pgBox e)) hoe.len (hoe.row.below hb5)
      have HG2 := Lib.hid hg
      have HN := Lib.hid hnext
      have HH := Lib.hid hh
      have HBl := Lib.hid (b_more hb (pgBox e))
      unfold pgBox at HBl HH
      unfold onP at HG2 HN
      generalize hasB e.fs s = bb at HH HG2 HN
      clear hg hnext hall hek hat hb hoe hb5 hh
      cases bb with
      | true =>
        obtain rfl := HG2.out rfl
        go_wp2_with fail
        refine HH.out.mono ?_; rintro r w1 ⟨rfl, rfl⟩
        go_wp2_with fail
        go_ret
        exact ⟨rfl, HBl.out⟩
      | false =>
        have HN2 := Lib.hid (HN.out rfl)
        go_wp2_with fail
        refine HH.out.mono ?_; rintro r w1 ⟨rfl, rfl⟩
        go_wp2_with fail
        go_roundw
        case rel => exact ⟨k + 1, by go_num, by omega, HN2.out, HBl.out⟩
        case measure => simp [intOf]; omega
    · obtain rfl := HBd.out fun j hj => hall j hj (by omega)
      have HBl := Lib.hid hb
      clear hall hb
      go_wp2_with fail
      go_ret
      exact ⟨rfl, HBl.out⟩
end Go.Proofs.Ythgcmficmodhiaa.PgA
