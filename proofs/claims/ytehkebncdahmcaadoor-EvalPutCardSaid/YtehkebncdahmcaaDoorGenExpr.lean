/- The statements' own generator of formulas: a formula of a type. -/
import Derived.Test.YtehkebncdahmcaaDoorGen
namespace Go.Proofs.YtehkebncdahmcaaDoor.GenE
open Go.RowKit
open ValM LexM NumM ExM Kit ExL ExP RawV Within RawL GenL Gen
set_option linter.unusedVariables false

theorem vK_ne {k : Int} (h1 : k ≠ 1) (h2 : k ≠ 2) : vK k = 3 := by unfold vK; rw [if_neg h1, if_neg h2]
theorem leaf_sizes {fs : List GenL.Fd} {kind : Int} {d : Nd} (hfs : ∀ f ∈ fs, f.nm.size ≤ maxLen) (h : LeafD fs kind d) : d.s.size ≤ maxLen ∧ d.nm.size ≤ maxLen := by
  rcases h with ⟨_, h2, h3, h4, _⟩ | ⟨_, _, _, h4, f, hf, h5, _⟩
  · refine ⟨?_, by rw [h2]; exact Nat.zero_le _⟩
    unfold knownB at h4
    simp only [Bool.and_eq_true, decide_eq_true_eq] at h4
    have hz := h4.2
    unfold valE at hz
    by_cases hn : numE d.k d.n = 0
    · rw [if_pos hn] at hz
      unfold strE at hz
      by_cases h3 : d.k = 3
      · rw [if_pos h3] at hz
        by_cases h40 : 40 < d.s.data.toList.length
        · rw [if_pos h40] at hz; exact absurd hz (by decide)
        · have : d.s.data.toList.length = d.s.size := rfl
          unfold maxLen; omega
      · rw [if_neg h3] at hz
        by_cases he : d.s.data.toList = []
        · have : d.s.data.toList.length = d.s.size := rfl
          rw [he] at this; simp at this; unfold maxLen; omega
        · rw [if_neg he] at hz; exact absurd hz (by decide)
    · rw [if_neg hn] at hz; exact absurd hz hn
  · exact ⟨by rw [h4]; exact Nat.zero_le _, by rw [← h5]; exact hfs f hf⟩
/-- A leaf is one of them. -/
theorem gn_leaf {fs : List GenL.Fd} {k : Nat} {kind : Int} {d : Nd} (h : LeafD fs kind d) : Gn fs k kind (.mk d []) := by
  cases k with
  | zero => exact ⟨d, rfl, h⟩
  | succ k => exact .inl ⟨d, rfl, h⟩
theorem fin_made {R : Ex → Prop} {G n c a a' m cp r : Nat} {A B : Option Addr} {w V w7 : World} {x : Ex} {d : Nd} (hGw : G < w.heap.size) (h1 : Gr G w V) (h7 : Gr G V w7) (hR : R x) (hi : IsP (fun b => V.heap.size ≤ b) w7 x d B m) (ha : a' ≤ a) (hg : Gen w7 G A n c a') (hr1 : w.heap.size ≤ r) (hr2 : r < V.heap.size) :
    MadeOut G A n c a R w (.returned (.agg #[.int .i64 d.op, .int .i64 d.k, .int .i64 d.n, .string d.s, .string d.nm, .slice B m cp])) ((((((w7.setCell ⟨r, 0, none⟩ (.int .i64 d.op)).setCell ⟨r, 1, none⟩ (.int .i64 d.k)).setCell ⟨r, 2, none⟩ (.int .i64 d.n)).setCell ⟨r, 3, none⟩ (.string d.s)).setCell ⟨r, 4, none⟩ (.string d.nm)).setCell ⟨r, 5, none⟩ (.slice B m cp)) := by
  refine ⟨x, d, B, m, cp, a', rfl, hR, IsP.keep (fun b hb hl => set6_heap (by omega) _ _ _ _ _ _) (fun b hb hl => Nat.le_trans h1.size hb) _ _ _ _ hi, ha, ?_, ?_⟩
  · repeat' (first | (with_reducible exact hg) | (with_reducible refine Gen.far ?_ ?_ _) | (dsimp only; omega))
  · have := h1.trans h7
    repeat' (first | (with_reducible exact this) | (with_reducible refine Gr.set ?_ ?_) | (dsimp only; omega))
theorem gn_made {fs : List GenL.Fd} {k : Nat} {kind op : Int} {ks : List Int} (ho : OpT op ks kind) {x : Ex} (h : ∃ l, x = .mk ⟨op, 0, 0, ⟨#[]⟩, ⟨#[]⟩⟩ l ∧ l.length = ks.length ∧ ∀ (i : Nat) (h1 : i < l.length) (h2 : i < ks.length), Gn fs k ks[i] l[i]) : Gn fs (k + 1) kind x := by
  obtain ⟨l, h1, h2, h3⟩ := h
  exact .inr ⟨op, ks, l, h1, ho, h2, h3⟩
theorem five (q : Nat) (h : q < 5) : ([.int .i64 5, .int .i64 6, .int .i64 7, .int .i64 8, .int .i64 9] : List Value)[q]'(by simpa using h) = .int .i64 ((q : Int) + 5) := by
  obtain rfl | rfl | rfl | rfl | rfl : q = 0 ∨ q = 1 ∨ q = 2 ∨ q = 3 ∨ q = 4 := by omega
  all_goals rfl
theorem cost_pos (k : Nat) : 2 ≤ cost k := by cases k <;> simp [cost]
set_option maxHeartbeats 8000000 in
set_option maxRecDepth 100000 in
theorem expr_any (k : Nat) (deep : Nat) (hdeep : deep = 0 ∨ (deep = k + 1 ∧ ExprAt k)) (G n c a fc : Nat) (A FA : Option Addr) (fs : List GenL.Fd) (kind : Int) (w : World) (hg : Gen w G A n c a) (hr : Raws w A n c) (hf : Flds w FA fs) (hfn : fs.length ≤ 1000000) (hfs : ∀ f ∈ fs, f.nm.size ≤ maxLen) (ha : a + cost deep ≤ 1000000000) (hd1 : deep ≤ 1000000) :
    Calls Tryd.prog 18 #[.pointer (some ⟨G, 0, none⟩), .int .i64 kind, .slice FA fs.length fc, .int .i64 (deep : Int)] w (MadeOut G A n c (a + cost deep) (Gn fs deep kind) w) := by
  have hc2 := cost_pos deep
  have gl := hg.lt
  obtain ⟨dp, hdp⟩ : ∃ dp : Int, (deep : Int) = dp := ⟨_, rfl⟩
  rw [hdp]
  have hgr0 : ∀ o1 o2 o3 o4, Gr G w ((((w.alloc o1).alloc o2).alloc o3).alloc o4) := fun o1 o2 o3 o4 => Gr.of_below (b_more (b_more (b_more (b_new _ _) _) _) _)
  have hn : ∀ o1 o2 o3 o4, Calls Tryd.prog 22 #[.pointer (some ⟨G, 0, none⟩)] ((((w.alloc o1).alloc o2).alloc o3).alloc o4) (NextOut G A n c a ((((w.alloc o1).alloc o2).alloc o3).alloc o4)) := fun o1 o2 o3 o4 =>
    next_any G n c a A _ ((((hg.alloc o1).alloc o2).alloc o3).alloc o4) (Gr.raws (hgr0 o1 o2 o3 o4) hg hr) (by omega)
  have hmf : ∀ (fn : Fn) (first cap : Array Value) (w : World), (Instr.makeFunc fn first cap).run Tryd.prog w = .ok (.func fn first cap) w := fun _ _ _ _ => rfl
  obtain ⟨M, hM⟩ : ∃ M, MadeOut G A n c (a + cost deep) (Gn fs deep kind) w = M := ⟨_, rfl⟩
  rw [hM]
  have HM := Lib.hid hM
  have HN := Lib.hid hn
  have HG := Lib.hid hg
  have HR := Lib.hid hr
  have HF := Lib.hid hf
  have HGr := Lib.hid hgr0
  have HFS := Lib.hid hfs
  have HDP := Lib.hid hdp
  have HD := Lib.hid hdeep
  clear hn hg hr hf hgr0 hfs hdp hdeep hM
  go_enter Tryd.func18, Tryd.ntmps18
  go_wp2_with fail
  refine (HN.out _ _ _ _).mono ?_; rintro e w1 ⟨K, X, Y, T, a', rfl, k0, k1, k2, k3, ha', hg2, hgr2⟩
  obtain ⟨W2, hW2⟩ : ∃ W2, w1.alloc (.cells #[.int .i64 K, .int .i64 X, .int .i64 Y, .string T] 61) = W2 := ⟨_, rfl⟩
  have hgw : Gr G w W2 := by rw [← hW2]; exact ((HGr.out _ _ _ _).trans hgr2).trans (Gr.of_below (b_new _ _))
  have hg3 : Gen W2 G A n c a' := by rw [← hW2]; exact hg2.alloc _
  have hsz2 : w.heap.size + 4 ≤ w1.heap.size := by have := hgr2.size; simp at this; omega
  have hsz3 : W2.heap.size = w1.heap.size + 1 := by rw [← hW2]; simp
  have keep : ∀ b, w.heap.size ≤ b → b < w.heap.size + 4 → W2.heap[b]? = ((((w.alloc (.cells #[.pointer (some ⟨G, 0, none⟩)] 51)).alloc (.cells #[.slice FA fs.length fc] 35)).alloc (.cells #[.int .i64 dp] 3)).alloc (.cells #[.int .i64 0, .int .i64 0, .int .i64 0, .string ⟨#[]⟩, .string ⟨#[]⟩, .slice none 0 0] 26)).heap[b]? := fun b h1 h2 => by
    rw [← hW2, (b_new w1 _).block b (by omega)]
    exact hgr2.block b (by simp; omega) (fun e => by injection e; omega)
  have q0 : Boxed W2 w.heap.size 51 (.pointer (some ⟨G, 0, none⟩)) := (keep _ (by omega) (by omega)).trans (((Boxed.new w _ _).alloc _).alloc _ |>.alloc _)
  have q1 : Boxed W2 (w.heap.size + 1) 35 (.slice FA fs.length fc) := (keep _ (by omega) (by omega)).trans (by
    have := Boxed.new (w.alloc (.cells #[.pointer (some ⟨G, 0, none⟩)] 51)) 35 (.slice FA fs.length fc)
    rw [World.size_alloc] at this; exact (this.alloc _).alloc _)
  have q2 : Boxed W2 (w.heap.size + 1 + 1) 3 (.int .i64 dp) := (keep _ (by omega) (by omega)).trans (by
    have := Boxed.new ((w.alloc (.cells #[.pointer (some ⟨G, 0, none⟩)] 51)).alloc (.cells #[.slice FA fs.length fc] 35)) 3 (.int .i64 dp)
    simp only [World.size_alloc] at this; exact this.alloc _)
  have q3 : W2.heap[w.heap.size + 1 + 1 + 1]? = some (.cells #[.int .i64 0, .int .i64 0, .int .i64 0, .string ⟨#[]⟩, .string ⟨#[]⟩, .slice none 0 0] 26 (0, 0)) := (keep _ (by omega) (by omega)).trans (by
    have := World.alloc_heap_new (((w.alloc (.cells #[.pointer (some ⟨G, 0, none⟩)] 51)).alloc (.cells #[.slice FA fs.length fc] 35)).alloc (.cells #[.int .i64 dp] 3)) (.cells #[.int .i64 0, .int .i64 0, .int .i64 0, .string ⟨#[]⟩, .string ⟨#[]⟩, .slice none 0 0] 26)
    simp only [World.size_alloc] at this; exact this)
  have q4 : W2.heap[w1.heap.size]? = some (.cells #[.int .i64 K, .int .i64 X, .int .i64 Y, .string T] 61 (0, 0)) := by rw [← hW2]; exact World.alloc_heap_new w1 _
  have e1 : ∀ b, b < w1.heap.size → w1.heap[b]? = W2.heap[b]? := fun b hb => by rw [← hW2]; exact ((b_new w1 _).block b hb).symm
  have c0 : w1.cell? ⟨w.heap.size, 0, none⟩ = some (.pointer (some ⟨G, 0, none⟩)) := Boxed.cell ((e1 _ (by omega)).trans q0)
  have c1 : w1.cell? ⟨w.heap.size + 1, 0, none⟩ = some (.slice FA fs.length fc) := Boxed.cell ((e1 _ (by omega)).trans q1)
  have c2 : w1.cell? ⟨w.heap.size + 1 + 1, 0, none⟩ = some (.int .i64 dp) := Boxed.cell ((e1 _ (by omega)).trans q2)
  have z1 : w.heap.size + 1 + 1 + 1 < w1.heap.size := by omega
  have z0 : w.heap.size + 1 + 1 < w1.heap.size := by omega
  have z2 : w.heap.size + 1 < w1.heap.size := by omega
  have z3 : w.heap.size < w1.heap.size := by omega
  clear e1
  have hrw : Raws W2 A n c := Gr.raws hgw HG.out HR.out
  have hfw : Flds W2 FA fs := Gr.flds hgw HG.out HF.out
  obtain ⟨p1, hp1⟩ : ∃ p, pick K 3 = p := ⟨_, rfl⟩
  obtain ⟨p2, hp2⟩ : ∃ p, pick X 6 = p := ⟨_, rfl⟩
  obtain ⟨p3, hp3⟩ : ∃ p, pick Y 7 = p := ⟨_, rfl⟩
  obtain ⟨p4, hp4⟩ : ∃ p, pick X 3 = p := ⟨_, rfl⟩
  have b3 := pick_bd Y 7 (by decide)
  have b4 := pick_bd X 3 (by decide)
  rw [hp3] at b3
  rw [hp4] at b4
  obtain ⟨b30, b31⟩ := b3
  obtain ⟨b40, b41⟩ := b4
  have hP1 := fun W => picked_any K 3 W k0 (by decide) (by decide)
  have hP2 := fun W => picked_any X 6 W k1 (by decide) (by decide)
  have hP3 := fun W => picked_any Y 7 W k2 (by decide) (by decide)
  have hP4 := fun W => picked_any X 3 W k1 (by decide) (by decide)
  rw [hp1] at hP1
  rw [hp2] at hP2
  rw [hp3] at hP3
  rw [hp4] at hP4
  have HP1 := Lib.hid hP1
  have HP2 := Lib.hid hP2
  have HP3 := Lib.hid hP3
  have HP4 := Lib.hid hP4
  have HW2 := Lib.hid hW2
  have HS3 := Lib.hid hsz3
  have HGW := Lib.hid hgw
  have HG3 := Lib.hid hg3
  have HRW := Lib.hid hrw
  have HFW := Lib.hid hfw
  have Q0 := Lib.hid q0
  have Q1 := Lib.hid q1
  have Q2 := Lib.hid q2
  have Q3 := Lib.hid q3
  have hsz4 : w.heap.size + 5 ≤ W2.heap.size := by omega
  clear hP1 hP2 hP3 hP4 hp1 hp2 hp3 hp4 hgw hg3 hrw hfw q0 q1 q2 q3 q4 keep hg2 hgr2 hW2 hsz3
  -- what lies in the result's cell, wherever
  have hres : ∀ V, Gr G W2 V → (∀ o, V.cell? ⟨w.heap.size + 1 + 1 + 1, o, none⟩ = (#[.int .i64 0, .int .i64 0, .int .i64 0, .string ⟨#[]⟩, .string ⟨#[]⟩, .slice none 0 0] : Array Value)[o]?) ∧ ∀ o, V.frozen? ⟨w.heap.size + 1 + 1 + 1, o, none⟩ = false := fun V hV => by
    have h3 : V.heap[w.heap.size + 1 + 1 + 1]? = _ := (hV.block _ (by omega) (fun e => by injection e; omega)).trans Q3.out
    exact ⟨fun o => by simp [World.cell?, h3], fun o => by simp [World.frozen?, h3]⟩
  have HRes := Lib.hid hres
  clear hres
  by_cases hleaf : deep = 0 ∨ p1 = 0
  · have hc := leaf_any G n c a' fc A FA fs kind W2 HG3.out HRW.out HFW.out hfn (by omega)
    have HC := Lib.hid hc
    clear hc
    obtain ⟨b, hb⟩ : ∃ b : Bool, decide (dp ≤ 0) = b := ⟨_, rfl⟩
    have hb2 : b = true ∨ (b = false ∧ p1 = 0) := by
      rcases hleaf with h | h
      · left; rw [← hb]; have := HDP.out; simp; omega
      · cases b
        · exact .inr ⟨rfl, h⟩
        · exact .inl rfl
    clear hleaf
    rcases hb2 with rfl | ⟨rfl, rfl⟩
    all_goals
      go_wp2_with (go_at_call 8; (with_reducible refine (HP1.out _).mono ?_); rintro e w9 ⟨rfl, rfl⟩)
      rw [HW2.out]
      refine HC.out.mono ?_; rintro e w7 ⟨d, rfl, hld, ⟨a2, ha2, hg7⟩, hgr7⟩
      obtain ⟨hc7, hf7⟩ := HRes.out w7 hgr7
      have HX := Lib.hid (And.intro hld (And.intro hg7 hgr7))
      clear hld hg7 hgr7
      go_wp2_with fail
      refine bodyPost_ret (v := .agg #[.int .i64 d.op, .int .i64 d.k, .int .i64 d.n, .string d.s, .string d.nm, .slice none 0 0]) (by simp [results, Tryd.results18, go_sem, hc7]) rfl ?_
      rw [← HM.out]
      exact fin_made gl HGW.out HX.out.2.2 (gn_leaf HX.out.1) (isP_leaf _ _ _ _ (leaf_sizes HFS.out HX.out.1).1 (leaf_sizes HFS.out HX.out.1).2) (by omega) HX.out.2.1 (by omega) (by omega)
  · have t0 : decide (dp ≤ 0) = false := decide_eq_false (by have := HDP.out; omega)
    have t1 : (p1 == 0) = false := beq_eq_false_iff_ne.2 (fun h => hleaf (.inr h))
    have hdk : deep = k + 1 ∧ ExprAt k := by
      rcases HD.out with h | h
      · exact absurd (.inl h) hleaf
      · exact h
    have hdpk : dp = (k : Int) + 1 := by have := HDP.out; have := hdk.1; omega
    have hcost : a' + 3 * cost k ≤ a + cost deep := by rw [hdk.1]; show a' + 3 * cost k ≤ a + (2 + 3 * cost k); omega
    have hwith : ∀ (V : World) (op : Int) (ks : List Int) (kb kc n_ : Nat), ks.length = n_ → Below W2.heap.size W2 V → V.heap[kb]? = some (.cells (ks.map (Value.int .i64)).toArray 3 (0, 0)) → 0 < n_ → n_ ≤ 3 →
        Calls Tryd.prog 39 #[.int .i64 op, .slice (some ⟨kb, 0, none⟩) n_ kc, .pointer (some ⟨w.heap.size, 0, none⟩), .pointer (some ⟨w.heap.size + 1, 0, none⟩), .pointer (some ⟨w.heap.size + 1 + 1, 0, none⟩)] V
          (MadeOut G A n c (a' + n_ * cost k) (fun x => ∃ l, x = .mk ⟨op, 0, 0, ⟨#[]⟩, ⟨#[]⟩⟩ l ∧ l.length = ks.length ∧ ∀ (i : Nat) (h1 : i < l.length) (h2 : i < ks.length), Gn fs k ks[i] l[i]) V) := fun V op ks kb kc n_ hn hV hkb h0 h3 => by
      subst hn
      have h4 : ks.length * cost k ≤ 3 * cost k := Nat.mul_le_mul_right _ h3
      exact with_any k hdk.2 G n c a' fc w.heap.size (w.heap.size + 1) (w.heap.size + 1 + 1) kb kc A FA fs op ks V (HG3.out.below hV) (Gr.raws (Gr.of_below hV) HG3.out HRW.out) (HFW.out.below hV) hfn HFS.out (by omega) ((hV.block _ (by omega)).trans Q0.out) ((hV.block _ (by omega)).trans Q1.out) dp hdpk ((hV.block _ (by omega)).trans Q2.out) hkb h0 h3 (by omega)
    have HWith := Lib.hid hwith
    have HDK := Lib.hid hdk.1
    have HC3 := Lib.hid hcost
    clear hdk hdpk hcost hwith hleaf
    by_cases h2 : p2 = 0
    · have t2 : (p2 == 0) = true := beq_iff_eq.2 h2
      clear h2
      have hc := HWith.out (W2.alloc (.cells #[.int .i64 2, .int .i64 kind, .int .i64 kind] 3)) (17) [2, kind, kind] (w1.heap.size + 1) 3 3 rfl (b_new _ _) (by rw [← HS3.out]; exact (World.alloc_heap_new W2 _)) (by decide) (by decide)
      have HC := Lib.hid hc
      have hgv : Gr G W2 (W2.alloc (.cells #[.int .i64 2, .int .i64 kind, .int .i64 kind] 3)) := Gr.of_below (b_new _ _)
      have HGV := Lib.hid hgv
      clear hc hgv
      go_wp2_with (first | (go_at_call 8; (with_reducible refine (HP1.out _).mono ?_); rintro e w9 ⟨rfl, rfl⟩) | (go_at_call 8; (with_reducible refine (HP2.out _).mono ?_); rintro e w9 ⟨rfl, rfl⟩) | (go_at_call 8; (with_reducible refine (HP3.out _).mono ?_); rintro e w9 ⟨rfl, rfl⟩) | (go_at_call 8; (with_reducible refine (HP4.out _).mono ?_); rintro e w9 ⟨rfl, rfl⟩))
      rw [HW2.out]
      (with_reducible refine HC.out.mono ?_); rintro e w7 ⟨x, d, B, m, cp, a2, rfl, hx, hisx, ha2, hg7, hgr7⟩
      obtain ⟨hc7, hf7⟩ := HRes.out w7 (HGV.out.trans hgr7)
      have HX := Lib.hid (And.intro hx (And.intro hisx (And.intro ha2 (And.intro hg7 hgr7))))
      clear hx hisx ha2 hg7 hgr7
      go_wp2_with fail
      refine bodyPost_ret (v := .agg #[.int .i64 d.op, .int .i64 d.k, .int .i64 d.n, .string d.s, .string d.nm, .slice B m cp]) (by simp [results, Tryd.results18, go_sem, hc7]) rfl ?_
      rw [← HM.out, HDK.out]
      have hle := HC3.out
      rw [HDK.out] at hle
      have hx2 : a2 ≤ a' + 3 * cost k := HX.out.2.2.1
      exact fin_made gl (HGW.out.trans HGV.out) HX.out.2.2.2.2 (gn_made (by unfold OpT; left; exact ⟨rfl, rfl⟩) HX.out.1) HX.out.2.1 (by omega) HX.out.2.2.2.1 (by omega) (by simp; omega)
    · have t2 : (p2 == 0) = false := beq_eq_false_iff_ne.2 h2
      clear h2
      by_cases h3 : kind = 1
      · subst h3
        by_cases h5 : p3 = 0
        · have t3 : (p3 == 0) = true := beq_iff_eq.2 h5
          clear h5
          have hc := HWith.out (W2.alloc (.cells #[.int .i64 1] 3)) (3) [1] (w1.heap.size + 1) 1 1 rfl (b_new _ _) (by rw [← HS3.out]; exact (World.alloc_heap_new W2 _)) (by decide) (by decide)
          have HC := Lib.hid hc
          have hgv : Gr G W2 (W2.alloc (.cells #[.int .i64 1] 3)) := Gr.of_below (b_new _ _)
          have HGV := Lib.hid hgv
          clear hc hgv
          go_wp2_with (first | (go_at_call 8; (with_reducible refine (HP1.out _).mono ?_); rintro e w9 ⟨rfl, rfl⟩) | (go_at_call 8; (with_reducible refine (HP2.out _).mono ?_); rintro e w9 ⟨rfl, rfl⟩) | (go_at_call 8; (with_reducible refine (HP3.out _).mono ?_); rintro e w9 ⟨rfl, rfl⟩) | (go_at_call 8; (with_reducible refine (HP4.out _).mono ?_); rintro e w9 ⟨rfl, rfl⟩))
          rw [HW2.out]
          (with_reducible refine HC.out.mono ?_); rintro e w7 ⟨x, d, B, m, cp, a2, rfl, hx, hisx, ha2, hg7, hgr7⟩
          obtain ⟨hc7, hf7⟩ := HRes.out w7 (HGV.out.trans hgr7)
          have HX := Lib.hid (And.intro hx (And.intro hisx (And.intro ha2 (And.intro hg7 hgr7))))
          clear hx hisx ha2 hg7 hgr7
          go_wp2_with fail
          refine bodyPost_ret (v := .agg #[.int .i64 d.op, .int .i64 d.k, .int .i64 d.n, .string d.s, .string d.nm, .slice B m cp]) (by simp [results, Tryd.results18, go_sem, hc7]) rfl ?_
          rw [← HM.out, HDK.out]
          have hle := HC3.out
          rw [HDK.out] at hle
          have hx2 : a2 ≤ a' + 1 * cost k := HX.out.2.2.1
          exact fin_made gl (HGW.out.trans HGV.out) HX.out.2.2.2.2 (gn_made (by unfold OpT; right; left; exact ⟨rfl, .inl ⟨rfl, rfl⟩⟩) HX.out.1) HX.out.2.1 (by omega) HX.out.2.2.2.1 (by omega) (by simp; omega)
        · have t3 : (p3 == 0) = false := beq_eq_false_iff_ne.2 h5
          by_cases h6 : p3 = 1
          · have t4 : (p3 == 1) = true := beq_iff_eq.2 h6
            clear h5 h6
            have hc := HWith.out (W2.alloc (.cells #[.int .i64 3] 3)) (18) [3] (w1.heap.size + 1) 1 1 rfl (b_new _ _) (by rw [← HS3.out]; exact (World.alloc_heap_new W2 _)) (by decide) (by decide)
            have HC := Lib.hid hc
            have hgv : Gr G W2 (W2.alloc (.cells #[.int .i64 3] 3)) := Gr.of_below (b_new _ _)
            have HGV := Lib.hid hgv
            clear hc hgv
            go_wp2_with (first | (go_at_call 8; (with_reducible refine (HP1.out _).mono ?_); rintro e w9 ⟨rfl, rfl⟩) | (go_at_call 8; (with_reducible refine (HP2.out _).mono ?_); rintro e w9 ⟨rfl, rfl⟩) | (go_at_call 8; (with_reducible refine (HP3.out _).mono ?_); rintro e w9 ⟨rfl, rfl⟩) | (go_at_call 8; (with_reducible refine (HP4.out _).mono ?_); rintro e w9 ⟨rfl, rfl⟩))
            rw [HW2.out]
            (with_reducible refine HC.out.mono ?_); rintro e w7 ⟨x, d, B, m, cp, a2, rfl, hx, hisx, ha2, hg7, hgr7⟩
            obtain ⟨hc7, hf7⟩ := HRes.out w7 (HGV.out.trans hgr7)
            have HX := Lib.hid (And.intro hx (And.intro hisx (And.intro ha2 (And.intro hg7 hgr7))))
            clear hx hisx ha2 hg7 hgr7
            go_wp2_with fail
            refine bodyPost_ret (v := .agg #[.int .i64 d.op, .int .i64 d.k, .int .i64 d.n, .string d.s, .string d.nm, .slice B m cp]) (by simp [results, Tryd.results18, go_sem, hc7]) rfl ?_
            rw [← HM.out, HDK.out]
            have hle := HC3.out
            rw [HDK.out] at hle
            have hx2 : a2 ≤ a' + 1 * cost k := HX.out.2.2.1
            exact fin_made gl (HGW.out.trans HGV.out) HX.out.2.2.2.2 (gn_made (by unfold OpT; right; left; exact ⟨rfl, .inr (.inl ⟨rfl, rfl⟩)⟩) HX.out.1) HX.out.2.1 (by omega) HX.out.2.2.2.1 (by omega) (by simp; omega)
          · have t4 : (p3 == 1) = false := beq_eq_false_iff_ne.2 h6
            obtain ⟨qn, hqn⟩ : ∃ qn : Nat, p3 - 2 = qn := ⟨(p3 - 2).toNat, by omega⟩
            have hq5 : qn < 5 := by omega
            have u0 : 0 ≤ p3 - 2 := by omega
            have u1 : p3 - 2 < 5 := by omega
            have u2 : (p3 - 2).toNat = qn := by omega
            have u3 := five qn hq5
            clear h5 h6 hqn
            have hc := HWith.out ((W2.alloc (.cells #[.int .i64 5, .int .i64 6, .int .i64 7, .int .i64 8, .int .i64 9] 3)).alloc (.cells #[.int .i64 1, .int .i64 1] 3)) ((qn : Int) + 5) [1, 1] (w1.heap.size + 1 + 1) 2 2 rfl (b_more (b_new _ _) _) (by rw [← HS3.out]; exact (by have := World.alloc_heap_new (W2.alloc (.cells #[.int .i64 5, .int .i64 6, .int .i64 7, .int .i64 8, .int .i64 9] 3)) (.cells #[.int .i64 1, .int .i64 1] 3); rw [World.size_alloc] at this; exact this)) (by decide) (by decide)
            have HC := Lib.hid hc
            have hgv : Gr G W2 ((W2.alloc (.cells #[.int .i64 5, .int .i64 6, .int .i64 7, .int .i64 8, .int .i64 9] 3)).alloc (.cells #[.int .i64 1, .int .i64 1] 3)) := Gr.of_below (b_more (b_new _ _) _)
            have HGV := Lib.hid hgv
            clear hc hgv
            go_wp2_with (first | (go_at_call 8; (with_reducible refine (HP1.out _).mono ?_); rintro e w9 ⟨rfl, rfl⟩) | (go_at_call 8; (with_reducible refine (HP2.out _).mono ?_); rintro e w9 ⟨rfl, rfl⟩) | (go_at_call 8; (with_reducible refine (HP3.out _).mono ?_); rintro e w9 ⟨rfl, rfl⟩) | (go_at_call 8; (with_reducible refine (HP4.out _).mono ?_); rintro e w9 ⟨rfl, rfl⟩))
            rw [HW2.out]
            (with_reducible refine HC.out.mono ?_); rintro e w7 ⟨x, d, B, m, cp, a2, rfl, hx, hisx, ha2, hg7, hgr7⟩
            obtain ⟨hc7, hf7⟩ := HRes.out w7 (HGV.out.trans hgr7)
            have HX := Lib.hid (And.intro hx (And.intro hisx (And.intro ha2 (And.intro hg7 hgr7))))
            clear hx hisx ha2 hg7 hgr7
            go_wp2_with fail
            refine bodyPost_ret (v := .agg #[.int .i64 d.op, .int .i64 d.k, .int .i64 d.n, .string d.s, .string d.nm, .slice B m cp]) (by simp [results, Tryd.results18, go_sem, hc7]) rfl ?_
            rw [← HM.out, HDK.out]
            have hle := HC3.out
            rw [HDK.out] at hle
            have hx2 : a2 ≤ a' + 2 * cost k := HX.out.2.2.1
            exact fin_made gl (HGW.out.trans HGV.out) HX.out.2.2.2.2 (gn_made (by unfold OpT; right; left; exact ⟨rfl, .inr (.inr ⟨by omega, by omega, rfl⟩)⟩) HX.out.1) HX.out.2.1 (by omega) HX.out.2.2.2.1 (by omega) (by simp; omega)
      · have t5 : (kind == 1) = false := beq_eq_false_iff_ne.2 h3
        by_cases h4 : kind = 2
        · subst h4
          by_cases h5 : p3 = 0
          · have t3 : (p3 == 0) = true := beq_iff_eq.2 h5
            clear h5
            have hc := HWith.out (W2.alloc (.cells #[.int .i64 2] 3)) (4) [2] (w1.heap.size + 1) 1 1 rfl (b_new _ _) (by rw [← HS3.out]; exact (World.alloc_heap_new W2 _)) (by decide) (by decide)
            have HC := Lib.hid hc
            have hgv : Gr G W2 (W2.alloc (.cells #[.int .i64 2] 3)) := Gr.of_below (b_new _ _)
            have HGV := Lib.hid hgv
            clear hc hgv
            go_wp2_with (first | (go_at_call 8; (with_reducible refine (HP1.out _).mono ?_); rintro e w9 ⟨rfl, rfl⟩) | (go_at_call 8; (with_reducible refine (HP2.out _).mono ?_); rintro e w9 ⟨rfl, rfl⟩) | (go_at_call 8; (with_reducible refine (HP3.out _).mono ?_); rintro e w9 ⟨rfl, rfl⟩) | (go_at_call 8; (with_reducible refine (HP4.out _).mono ?_); rintro e w9 ⟨rfl, rfl⟩))
            rw [HW2.out]
            (with_reducible refine HC.out.mono ?_); rintro e w7 ⟨x, d, B, m, cp, a2, rfl, hx, hisx, ha2, hg7, hgr7⟩
            obtain ⟨hc7, hf7⟩ := HRes.out w7 (HGV.out.trans hgr7)
            have HX := Lib.hid (And.intro hx (And.intro hisx (And.intro ha2 (And.intro hg7 hgr7))))
            clear hx hisx ha2 hg7 hgr7
            go_wp2_with fail
            refine bodyPost_ret (v := .agg #[.int .i64 d.op, .int .i64 d.k, .int .i64 d.n, .string d.s, .string d.nm, .slice B m cp]) (by simp [results, Tryd.results18, go_sem, hc7]) rfl ?_
            rw [← HM.out, HDK.out]
            have hle := HC3.out
            rw [HDK.out] at hle
            have hx2 : a2 ≤ a' + 1 * cost k := HX.out.2.2.1
            exact fin_made gl (HGW.out.trans HGV.out) HX.out.2.2.2.2 (gn_made (by unfold OpT; right; right; left; exact ⟨rfl, .inl ⟨rfl, rfl⟩⟩) HX.out.1) HX.out.2.1 (by omega) HX.out.2.2.2.1 (by omega) (by simp; omega)
          · have t3 : (p3 == 0) = false := beq_eq_false_iff_ne.2 h5
            by_cases h6 : p3 < 3
            · have hop : p3 + 15 - 1 = p3 + 14 := by omega
              have hc := HWith.out (W2.alloc (.cells #[.int .i64 2, .int .i64 2] 3)) (15 + p3 - 1) [2, 2] (w1.heap.size + 1) 2 2 rfl (b_new _ _) (by rw [← HS3.out]; exact (World.alloc_heap_new W2 _)) (by decide) (by decide)
              have HC := Lib.hid hc
              have hgv : Gr G W2 (W2.alloc (.cells #[.int .i64 2, .int .i64 2] 3)) := Gr.of_below (b_new _ _)
              have HGV := Lib.hid hgv
              clear hc hgv
              go_wp2_with (first | (go_at_call 8; (with_reducible refine (HP1.out _).mono ?_); rintro e w9 ⟨rfl, rfl⟩) | (go_at_call 8; (with_reducible refine (HP2.out _).mono ?_); rintro e w9 ⟨rfl, rfl⟩) | (go_at_call 8; (with_reducible refine (HP3.out _).mono ?_); rintro e w9 ⟨rfl, rfl⟩) | (go_at_call 8; (with_reducible refine (HP4.out _).mono ?_); rintro e w9 ⟨rfl, rfl⟩))
              rw [HW2.out]
              (with_reducible refine HC.out.mono ?_); rintro e w7 ⟨x, d, B, m, cp, a2, rfl, hx, hisx, ha2, hg7, hgr7⟩
              obtain ⟨hc7, hf7⟩ := HRes.out w7 (HGV.out.trans hgr7)
              have HX := Lib.hid (And.intro hx (And.intro hisx (And.intro ha2 (And.intro hg7 hgr7))))
              clear hx hisx ha2 hg7 hgr7
              go_wp2_with fail
              refine bodyPost_ret (v := .agg #[.int .i64 d.op, .int .i64 d.k, .int .i64 d.n, .string d.s, .string d.nm, .slice B m cp]) (by simp [results, Tryd.results18, go_sem, hc7]) rfl ?_
              rw [← HM.out, HDK.out]
              have hle := HC3.out
              rw [HDK.out] at hle
              have hx2 : a2 ≤ a' + 2 * cost k := HX.out.2.2.1
              exact fin_made gl (HGW.out.trans HGV.out) HX.out.2.2.2.2 (gn_made (by unfold OpT; right; right; left; exact ⟨rfl, .inr (.inl ⟨by omega, by omega, rfl⟩)⟩) HX.out.1) HX.out.2.1 (by omega) HX.out.2.2.2.1 (by omega) (by simp; omega)
            · have t6 : ¬ p3 < 3 := h6
              have hc := HWith.out (W2.alloc (.cells #[.int .i64 (1 + p4), .int .i64 (1 + p4)] 3)) (11 + p3 - 3) [1 + p4, 1 + p4] (w1.heap.size + 1) 2 2 rfl (b_new _ _) (by rw [← HS3.out]; exact (World.alloc_heap_new W2 _)) (by decide) (by decide)
              have HC := Lib.hid hc
              have hgv : Gr G W2 (W2.alloc (.cells #[.int .i64 (1 + p4), .int .i64 (1 + p4)] 3)) := Gr.of_below (b_new _ _)
              have HGV := Lib.hid hgv
              clear hc hgv
              go_wp2_with (first | (go_at_call 8; (with_reducible refine (HP1.out _).mono ?_); rintro e w9 ⟨rfl, rfl⟩) | (go_at_call 8; (with_reducible refine (HP2.out _).mono ?_); rintro e w9 ⟨rfl, rfl⟩) | (go_at_call 8; (with_reducible refine (HP3.out _).mono ?_); rintro e w9 ⟨rfl, rfl⟩) | (go_at_call 8; (with_reducible refine (HP4.out _).mono ?_); rintro e w9 ⟨rfl, rfl⟩))
              rw [HW2.out]
              (with_reducible refine HC.out.mono ?_); rintro e w7 ⟨x, d, B, m, cp, a2, rfl, hx, hisx, ha2, hg7, hgr7⟩
              obtain ⟨hc7, hf7⟩ := HRes.out w7 (HGV.out.trans hgr7)
              have HX := Lib.hid (And.intro hx (And.intro hisx (And.intro ha2 (And.intro hg7 hgr7))))
              clear hx hisx ha2 hg7 hgr7
              go_wp2_with fail
              refine bodyPost_ret (v := .agg #[.int .i64 d.op, .int .i64 d.k, .int .i64 d.n, .string d.s, .string d.nm, .slice B m cp]) (by simp [results, Tryd.results18, go_sem, hc7]) rfl ?_
              rw [← HM.out, HDK.out]
              have hle := HC3.out
              rw [HDK.out] at hle
              have hx2 : a2 ≤ a' + 2 * cost k := HX.out.2.2.1
              exact fin_made gl (HGW.out.trans HGV.out) HX.out.2.2.2.2 (gn_made (by unfold OpT; right; right; left; exact ⟨rfl, .inr (.inr ⟨1 + p4, by omega, by omega, by omega, by omega, rfl⟩)⟩) HX.out.1) HX.out.2.1 (by omega) HX.out.2.2.2.1 (by omega) (by simp; omega)
        · have t6 : (kind == 2) = false := beq_eq_false_iff_ne.2 h4
          have hc := HWith.out (W2.alloc (.cells #[.int .i64 3, .int .i64 3] 3)) (10) [3, 3] (w1.heap.size + 1) 2 2 rfl (b_new _ _) (by rw [← HS3.out]; exact (World.alloc_heap_new W2 _)) (by decide) (by decide)
          have HC := Lib.hid hc
          have hgv : Gr G W2 (W2.alloc (.cells #[.int .i64 3, .int .i64 3] 3)) := Gr.of_below (b_new _ _)
          have HGV := Lib.hid hgv
          clear hc hgv
          go_wp2_with (first | (go_at_call 8; (with_reducible refine (HP1.out _).mono ?_); rintro e w9 ⟨rfl, rfl⟩) | (go_at_call 8; (with_reducible refine (HP2.out _).mono ?_); rintro e w9 ⟨rfl, rfl⟩) | (go_at_call 8; (with_reducible refine (HP3.out _).mono ?_); rintro e w9 ⟨rfl, rfl⟩) | (go_at_call 8; (with_reducible refine (HP4.out _).mono ?_); rintro e w9 ⟨rfl, rfl⟩))
          rw [HW2.out]
          (with_reducible refine HC.out.mono ?_); rintro e w7 ⟨x, d, B, m, cp, a2, rfl, hx, hisx, ha2, hg7, hgr7⟩
          obtain ⟨hc7, hf7⟩ := HRes.out w7 (HGV.out.trans hgr7)
          have HX := Lib.hid (And.intro hx (And.intro hisx (And.intro ha2 (And.intro hg7 hgr7))))
          clear hx hisx ha2 hg7 hgr7
          go_wp2_with fail
          refine bodyPost_ret (v := .agg #[.int .i64 d.op, .int .i64 d.k, .int .i64 d.n, .string d.s, .string d.nm, .slice B m cp]) (by simp [results, Tryd.results18, go_sem, hc7]) rfl ?_
          rw [← HM.out, HDK.out]
          have hle := HC3.out
          rw [HDK.out] at hle
          have hx2 : a2 ≤ a' + 2 * cost k := HX.out.2.2.1
          exact fin_made gl (HGW.out.trans HGV.out) HX.out.2.2.2.2 (gn_made (by unfold OpT; right; right; right; exact ⟨h3, h4, rfl, rfl⟩) HX.out.1) HX.out.2.1 (by omega) HX.out.2.2.2.1 (by omega) (by simp; omega)
/-- The contract of the maker of formulas. -/
theorem expr_all : ∀ k, k ≤ 1000000 → ExprAt k := by
  intro k
  induction k with
  | zero => intro _ G n c a fc A FA fs kind w hg hr hf hfn hfs ha; exact expr_any 0 0 (.inl rfl) G n c a fc A FA fs kind w hg hr hf hfn hfs ha (by omega)
  | succ k ih => intro hk G n c a fc A FA fs kind w hg hr hf hfn hfs ha; exact expr_any k (k + 1) (.inr ⟨rfl, ih (by omega)⟩) G n c a fc A FA fs kind w hg hr hf hfn hfs ha (by omega)
end Go.Proofs.YtehkebncdahmcaaDoor.GenE
