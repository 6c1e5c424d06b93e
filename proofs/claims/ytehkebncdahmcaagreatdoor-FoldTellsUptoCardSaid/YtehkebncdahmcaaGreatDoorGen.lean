/- The statements' own generator of formulas: an operator over operands that are made. -/
import Derived.Test.YtehkebncdahmcaaGreatDoorGenLeaf
import Derived.Test.YtehkebncdahmcaaGreatDoorExP
namespace Go.Proofs.YtehkebncdahmcaaGreatDoor.Gen
open Go.RowKit
open ValM LexM NumM ExM Kit ExL ExP RawV Within RawL GenL
set_option linter.unusedVariables false

/-- What an operator asks of its operands, where formulas of a type are made. -/
def OpT (op : Int) (ks : List Int) (kind : Int) : Prop :=
  (op = 17 ∧ ks = [2, kind, kind]) ∨
  (kind = 1 ∧ ((op = 3 ∧ ks = [1]) ∨ (op = 18 ∧ ks = [3]) ∨ (5 ≤ op ∧ op ≤ 9 ∧ ks = [1, 1]))) ∨
  (kind = 2 ∧ ((op = 4 ∧ ks = [2]) ∨ (15 ≤ op ∧ op ≤ 16 ∧ ks = [2, 2]) ∨ ∃ j, 1 ≤ j ∧ j ≤ 3 ∧ 11 ≤ op ∧ op ≤ 14 ∧ ks = [j, j])) ∨
  (kind ≠ 1 ∧ kind ≠ 2 ∧ op = 10 ∧ ks = [3, 3])
/-- The formulas of a type that the generator makes, so deep at most. -/
def Gn (fs : List GenL.Fd) : Nat → Int → Ex → Prop
  | 0, kind, x => ∃ d, x = .mk d [] ∧ LeafD fs kind d
  | k + 1, kind, x => (∃ d, x = .mk d [] ∧ LeafD fs kind d) ∨
      ∃ op ks l, x = .mk ⟨op, 0, 0, ⟨#[]⟩, ⟨#[]⟩⟩ l ∧ OpT op ks kind ∧ l.length = ks.length ∧ ∀ (i : Nat) (h1 : i < l.length) (h2 : i < ks.length), Gn fs k ks[i] l[i]
/-- How often the generator is asked at most. -/
def cost : Nat → Nat
  | 0 => 2
  | k + 1 => 2 + 3 * cost k
def MadeOut (G : Nat) (A : Option Addr) (n c a : Nat) (R : Ex → Prop) (w : World) (e : Ending) (w' : World) : Prop :=
  ∃ (x : Ex) (d : Nd) (B : Option Addr) (m cp a' : Nat), e = .returned (.agg #[.int .i64 d.op, .int .i64 d.k, .int .i64 d.n, .string d.s, .string d.nm, .slice B m cp]) ∧ R x ∧ IsP (fun b => w.heap.size ≤ b) w' x d B m ∧ a' ≤ a ∧ Gen w' G A n c a' ∧ Gr G w w'
/-- Between two operands. -/
structure WInv (w : World) (G : Nat) (A : Option Addr) (n c a k : Nat) (fs : List GenL.Fd) (op : Int) (ks : List Int) (j : Nat) (es : List El) (v : Value) (wr : World) : Prop where
  le : j ≤ ks.length
  len : es.length = j
  own : wr.ownsRow (w.heap.size + 2) 26 6 v es.length (elC es)
  is : ∀ e ∈ es, IsP (fun b => w.heap.size + 2 ≤ b ∧ some b ≠ v.ownBlock) wr e.x e.d e.A e.n
  gn : ∀ (i : Nat) (h1 : i < es.length) (h2 : i < ks.length), Gn fs k ks[i] es[i].x
  res : wr.heap[w.heap.size]? = some (.cells #[.int .i64 0, .int .i64 0, .int .i64 0, .string ⟨#[]⟩, .string ⟨#[]⟩, .slice none 0 0] 26 (0, 0))
  box : wr.heap[w.heap.size + 1]? = some (.cells #[.int .i64 op, .int .i64 0, .int .i64 0, .string ⟨#[]⟩, .string ⟨#[]⟩, v] 26 (0, 0))
  gen : ∃ a', a' ≤ a + j * cost k ∧ Gen wr G A n c a'
  gr : Gr G w wr
/-- The contract of the maker of formulas, one level below. -/
def ExprAt (k : Nat) : Prop := ∀ (G n c a fc : Nat) (A FA : Option Addr) (fs : List GenL.Fd) (kind : Int) (w : World), Gen w G A n c a → Raws w A n c → Flds w FA fs → fs.length ≤ 1000000 → (∀ f ∈ fs, f.nm.size ≤ maxLen) → a + cost k ≤ 1000000000 →
  Calls Tryz.prog 27 #[.pointer (some ⟨G, 0, none⟩), .int .i64 kind, .slice FA fs.length fc, .int .i64 (k : Int)] w (MadeOut G A n c (a + cost k) (Gn fs k kind) w)
theorem app_keep {V W' : World} {o : Obj} {b : Nat} {row : Option Nat} (hg : (V.alloc o).grownBy W' row) (hl : b < V.heap.size) (hne : some b ≠ row) : W'.heap[b]? = V.heap[b]? :=
  (hg.block b (by simp; omega) hne).trans ((b_new V o).block b hl)
theorem own_far {w : World} {base : Nat} {e : TypeId} {size : Nat} {v : Value} {n : Nat} {xs : List Value} (h : w.ownsRow base e size v n xs) {b : Nat} (hb : b < base) : some b ≠ v.ownBlock := fun e => by
  have := (h.lt b e.symm).1; omega
theorem WInv.step {w wr w5 w6 : World} {G : Nat} {A : Option Addr} {n c a k : Nat} {fs : List GenL.Fd} {op : Int} {ks : List Int} {j : Nat} {es : List El} {v : Value} {x : Ex} {d : Nd} {B : Option Addr} {m cp a' a2 gg cap : Nat} {tmp : Obj} (h : WInv w G A n c a k fs op ks j es v wr) (hj : j < ks.length) (hG : G < w.heap.size)
    (ha' : a' ≤ a + j * cost k) (hx : Gn fs k ks[j] x) (hisx : IsP (fun b => wr.drew.heap.size ≤ b) w5 x d B m) (ha2 : a2 ≤ a' + cost k) (hg2 : Gen w5 G A n c a2) (hgr2 : Gr G wr.drew w5)
    (hown6 : w6.ownsRow (w.heap.size + 2) 26 6 (.slice (some ⟨gg, 0, none⟩) (es.length + 1) cap) (es.length + 1) (elC es ++ [.int .i64 d.op, .int .i64 d.k, .int .i64 d.n, .string d.s, .string d.nm, .slice B m cp]))
    (hgrow6 : (w5.alloc tmp).grownBy w6 v.ownBlock) (hat6 : v.ownBlock = some gg ∨ gg = w5.heap.size + 1) :
    WInv w G A n c a k fs op ks (j + 1) (es ++ [⟨x, d, B, m, cp⟩]) (.slice (some ⟨gg, 0, none⟩) (es.length + 1) cap) (w6.setCell ⟨w.heap.size + 1, 5, none⟩ (.slice (some ⟨gg, 0, none⟩) (es.length + 1) cap)) := by
  have hbl := (Array.getElem?_eq_some_iff.1 h.box).1
  have hs5 : wr.heap.size ≤ w5.heap.size := hgr2.size
  have hgg : w.heap.size + 2 ≤ gg := (hown6.lt gg rfl).1
  have hge : Value.ownBlock (.slice (some ⟨gg, 0, none⟩) (es.length + 1) cap) = some gg := rfl
  have hov : ∀ g, v.ownBlock = some g → w.heap.size + 2 ≤ g ∧ g < wr.heap.size := fun g hg => h.own.lt g hg
  -- blocks that all this leaves alone
  have f5 : ∀ b, b < w5.heap.size → some b ≠ v.ownBlock → b ≠ w.heap.size + 1 → (w6.setCell ⟨w.heap.size + 1, 5, none⟩ (.slice (some ⟨gg, 0, none⟩) (es.length + 1) cap)).heap[b]? = w5.heap[b]? := fun b hl hne hx =>
    (Below.heap_setCell w6 ⟨w.heap.size + 1, 5, none⟩ _ b hx).trans (app_keep hgrow6 hl hne)
  have f0 : ∀ b, b < wr.heap.size → b ≠ G → some b ≠ v.ownBlock → b ≠ w.heap.size + 1 → (w6.setCell ⟨w.heap.size + 1, 5, none⟩ (.slice (some ⟨gg, 0, none⟩) (es.length + 1) cap)).heap[b]? = wr.heap[b]? := fun b hl hg hne hx =>
    (f5 b (by omega) hne hx).trans (hgr2.block b hl (fun e => hg (by injection e)))
  have hnb : ∀ b, b < w.heap.size + 2 → some b ≠ v.ownBlock := fun b hb => own_far h.own hb
  refine ⟨hj, by simp [h.len], ?_, ?_, ?_, ?_, ?_, ?_, ?_⟩
  · rw [elC_snoc, List.length_append]
    refine World.ownsRow.kept (row := some (w.heap.size + 1)) hown6 ⟨rfl, rfl, rfl, by simp [World.setCell], fun k _ hk => Below.heap_setCell _ _ _ k (fun e => hk (by rw [e]))⟩ (.inr ?_)
    rw [hge]; intro e; injection e with e; omega
  · intro e he
    rcases List.mem_append.1 he with he | he
    · refine IsP.keep (fun b hb hl => f0 b hl (by omega) hb.2 (by omega)) (fun b hb hl => ⟨hb.1, ?_⟩) _ _ _ _ (h.is e he)
      rw [hge]; intro e; injection e with e
      rcases hat6 with g | g
      · exact hb.2 (by rw [g, e])
      · omega
    · simp at he; subst he
      refine IsP.keep (fun b hb hl => ?_) (fun b hb hl => ⟨?_, ?_⟩) _ _ _ _ hisx
      · have hb' : wr.heap.size ≤ b := hb
        exact f5 b hl (fun e => by have := (hov b e.symm).2; omega) (by omega)
      · have hb' : wr.heap.size ≤ b := hb
        omega
      · have hb' : wr.heap.size ≤ b := hb
        rw [hge]; intro e; injection e with e
        rcases hat6 with g | g
        · have := (hov gg g).2; omega
        · omega
  · intro i h1 h2
    by_cases hi : i < es.length
    · rw [List.getElem_append_left hi]; exact h.gn i hi h2
    · have hij : i = es.length := by rw [List.length_append] at h1; simp at h1; omega
      subst hij
      have e1 : ks[es.length] = ks[j] := by congr 1; exact h.len
      simp only [List.getElem_concat_length]
      rw [e1]; exact hx
  · exact (f0 _ (Array.getElem?_eq_some_iff.1 h.res).1 (by omega) (hnb _ (by omega)) (by omega)).trans h.res
  · have h6 : w6.heap[w.heap.size + 1]? = _ := ((app_keep hgrow6 (by omega) (hnb _ (by omega))).trans (hgr2.block _ hbl (fun e => by injection e with e; omega))).trans h.box
    simp [World.setCell, Array.getElem?_modify, h6]
  · refine ⟨a2, by rw [Nat.add_mul, Nat.one_mul]; omega, ?_⟩
    exact (f5 G hg2.lt (hnb G (by omega)) (by omega)).trans hg2
  · refine ⟨?_, ?_, ?_, ?_, fun b hb hne => ?_⟩
    · exact hgrow6.os.trans (hgr2.os.trans h.gr.os)
    · exact hgrow6.tape.trans (hgr2.tape.trans h.gr.tape)
    · exact hgrow6.output.trans (hgr2.output.trans h.gr.output)
    · have h1 := h.gr.size
      have h2 := hgrow6.size
      simp [World.setCell] at h2 ⊢; omega
    · exact (f0 b (by have := h.gr.size; omega) (fun e => hne (by rw [e])) (hnb b (by omega)) (by omega)).trans (h.gr.block b hb hne)
theorem set6_heap {w : World} {B b : Nat} (h : b ≠ B) (v0 v1 v2 v3 v4 v5 : Value) : ((((((w.setCell ⟨B, 0, none⟩ v0).setCell ⟨B, 1, none⟩ v1).setCell ⟨B, 2, none⟩ v2).setCell ⟨B, 3, none⟩ v3).setCell ⟨B, 4, none⟩ v4).setCell ⟨B, 5, none⟩ v5).heap[b]? = w.heap[b]? := by
  rw [Below.heap_setCell _ ⟨B, 5, none⟩ _ b h, Below.heap_setCell _ ⟨B, 4, none⟩ _ b h, Below.heap_setCell _ ⟨B, 3, none⟩ _ b h, Below.heap_setCell _ ⟨B, 2, none⟩ _ b h, Below.heap_setCell _ ⟨B, 1, none⟩ _ b h, Below.heap_setCell _ ⟨B, 0, none⟩ _ b h]
theorem infoEx : (Tryz.prog.info? 26).map (fun i => (i.zero, i.size, i.bytes)) = some (some (.agg #[.int .i64 0, .int .i64 0, .int .i64 0, .string ⟨#[]⟩, .string ⟨#[]⟩, .slice none 0 0]), 6, 80) := by kernel_rfl

set_option maxHeartbeats 2000000 in
set_option maxRecDepth 100000 in
theorem with_any (k : Nat) (hE : ExprAt k) (G n c a fc Bg Bf Bd kb kc : Nat) (A FA : Option Addr) (fs : List GenL.Fd) (op : Int) (ks : List Int) (w : World) (hg : Gen w G A n c a) (hr : Raws w A n c) (hf : Flds w FA fs) (hfn : fs.length ≤ 1000000) (hfs : ∀ f ∈ fs, f.nm.size ≤ maxLen) (ha : a + ks.length * cost k ≤ 1000000000)
    (h1 : Boxed w Bg 60 (.pointer (some ⟨G, 0, none⟩))) (h2 : Boxed w Bf 40 (.slice FA fs.length fc)) (dp : Int) (hdp : dp = (k : Int) + 1) (h3 : Boxed w Bd 3 (.int .i64 dp)) (h4 : w.heap[kb]? = some (.cells (ks.map (Value.int .i64)).toArray 3 (0, 0))) (hk0 : 0 < ks.length) (hks : ks.length ≤ 3) (hk3 : k ≤ 1000000) :
    Calls Tryz.prog 47 #[.int .i64 op, .slice (some ⟨kb, 0, none⟩) ks.length kc, .pointer (some ⟨Bg, 0, none⟩), .pointer (some ⟨Bf, 0, none⟩), .pointer (some ⟨Bd, 0, none⟩)] w
      (MadeOut G A n c (a + ks.length * cost k) (fun x => ∃ l, x = .mk ⟨op, 0, 0, ⟨#[]⟩, ⟨#[]⟩⟩ l ∧ l.length = ks.length ∧ ∀ (i : Nat) (h1 : i < l.length) (h2 : i < ks.length), Gn fs k ks[i] l[i]) w) := by
  obtain ⟨i0, hi, hz0, hz1, hz2⟩ := info_parts infoEx
  have gl := hg.lt
  have l1 := h1.lt
  have l2 := h2.lt
  have l3 := h3.lt
  have l4 := (Array.getElem?_eq_some_iff.1 h4).1
  have n1 : Bg ≠ G := fun e => by subst e; unfold Boxed at h1; unfold RawL.Gen at hg; rw [h1] at hg; simp at hg
  have n2 : Bf ≠ G := fun e => by subst e; unfold Boxed at h2; unfold RawL.Gen at hg; rw [h2] at hg; simp at hg
  have n3 : Bd ≠ G := fun e => by subst e; unfold Boxed at h3; unfold RawL.Gen at hg; rw [h3] at hg; simp at hg
  have n4 : kb ≠ G := fun e => by subst e; unfold RawL.Gen at hg; rw [h4] at hg; simp at hg
  have hI0 : ∀ o1 o2, o1 = Obj.cells #[.int .i64 0, .int .i64 0, .int .i64 0, .string ⟨#[]⟩, .string ⟨#[]⟩, .slice none 0 0] 26 → o2 = Obj.cells #[.int .i64 op, .int .i64 0, .int .i64 0, .string ⟨#[]⟩, .string ⟨#[]⟩, .slice none 0 0] 26 → WInv w G A n c a k fs op ks 0 [] (.slice none 0 0) ((w.alloc o1).alloc o2) := fun o1 o2 e1 e2 => by
    subst e1 e2
    refine ⟨Nat.zero_le _, rfl, World.ownsRow_nil _ _ _ _, fun e he => by simp at he, fun i h => by simp at h, ?_, ?_, ⟨a, by omega, (hg.alloc _).alloc _⟩, Gr.of_below (b_more (b_new _ _) _)⟩
    · exact ((b_new (w.alloc _) _).block _ (by simp)).trans (World.alloc_heap_new w _)
    · have := World.alloc_heap_new (w.alloc (.cells #[.int .i64 0, .int .i64 0, .int .i64 0, .string ⟨#[]⟩, .string ⟨#[]⟩, .slice none 0 0] 26)) (.cells #[.int .i64 op, .int .i64 0, .int .i64 0, .string ⟨#[]⟩, .string ⟨#[]⟩, .slice none 0 0] 26)
      rw [World.size_alloc] at this; exact this
  have HI0 := Lib.hid (hI0 _ _ rfl rfl)
  have HR := Lib.hid hr
  have HF := Lib.hid hf
  have HG := Lib.hid hg
  have HFS := Lib.hid hfs
  have H1 := Lib.hid h1
  have H2 := Lib.hid h2
  have H3 := Lib.hid h3
  have H4 := Lib.hid h4
  have HN := Lib.hid (And.intro n1 (And.intro n2 (And.intro n3 n4)))
  have HE := Lib.hid hE
  have HDP := Lib.hid hdp
  clear hdp
  clear hI0 hr hf hg hfs h1 h2 h3 h4 n1 n2 n3 n4 hE
  go_enter Tryz.func47, Tryz.ntmps47
  go_wp2_with fail
  go_loopw [15] (fun i wr => ∃ (j : Nat) (es : List El) (v : Value), i = .int .i64 j ∧ WInv w G A n c a k fs op ks j es v wr) (fun i _ => ks.length - (intOf i).toNat)
  case atStart => exact ⟨0, [], _, rfl, HI0.out⟩
  case round =>
    obtain ⟨j, es, v, rfl, hI⟩ := hrel
    have HI := Lib.hid hI
    have hle := hI.le
    have hs := hI.gr.size
    have hs2 : w.heap.size + 2 ≤ wr.heap.size := (Array.getElem?_eq_some_iff.1 hI.box).1
    by_cases hlt : j < ks.length
    · obtain ⟨a', ha', hg'⟩ := hI.gen
      have c1 : wr.cell? ⟨Bg, 0, none⟩ = some (.pointer (some ⟨G, 0, none⟩)) := Boxed.cell ((hI.gr.block Bg l1 (fun e => HN.out.1 (by injection e))).trans H1.out)
      have c2 : wr.cell? ⟨Bf, 0, none⟩ = some (.slice FA fs.length fc) := Boxed.cell ((hI.gr.block Bf l2 (fun e => HN.out.2.1 (by injection e))).trans H2.out)
      have c3 : wr.cell? ⟨Bd, 0, none⟩ = some (.int .i64 dp) := Boxed.cell ((hI.gr.block Bd l3 (fun e => HN.out.2.2.1 (by injection e))).trans H3.out)
      have hkb : wr.heap[kb]? = some (.cells (ks.map (Value.int .i64)).toArray 3 (0, 0)) := (hI.gr.block kb l4 (fun e => HN.out.2.2.2 (by injection e))).trans H4.out
      obtain ⟨kj, hkj⟩ : ∃ x, ks[j] = x := ⟨_, rfl⟩
      have HKJ := Lib.hid hkj
      have c4 : wr.cell? ⟨kb, j, none⟩ = some (.int .i64 kj) := by simp [World.cell?, hkb, hlt, hkj]
      have c5 : wr.cell? ⟨w.heap.size + 1, 5, none⟩ = some v := by simp [World.cell?, hI.box]
      have h9 : j * cost k + cost k ≤ ks.length * cost k := by rw [← Nat.succ_mul]; exact Nat.mul_le_mul_right _ hlt
      have hgd : Gr G w wr.drew := hI.gr.trans (Gr.of_below (b_drew (Below.refl _ _)))
      have hc := HE.out G n c a' fc A FA fs kj wr.drew hg' (Gr.raws hgd HG.out HR.out) (Gr.flds hgd HG.out HF.out) hfn HFS.out (by omega)
      have HC := Lib.hid hc
      have HGA := Lib.hid (And.intro ha' hg')
      have hbox := hI.box
      have hnG : w.heap.size + 1 ≠ G := by omega
      have f5 : ∀ o, wr.frozen? ⟨w.heap.size + 1, o, none⟩ = false := fun o => by simp [World.frozen?, hbox]
      have hsum : IntKind.i64.wrap (dp - 1) = (k : Int) := by rw [IntWalk.i64_in _ (by have := HDP.out; omega)]; have := HDP.out; omega
      have hcs : ∀ V, Gr G wr.drew V → (V.cell? ⟨Bg, 0, none⟩ = some (.pointer (some ⟨G, 0, none⟩)) ∧ V.cell? ⟨Bf, 0, none⟩ = some (.slice FA fs.length fc) ∧ V.cell? ⟨Bd, 0, none⟩ = some (.int .i64 dp) ∧ V.cell? ⟨w.heap.size + 1, 5, none⟩ = some v) ∧ (∀ o, V.frozen? ⟨w.heap.size + 1, o, none⟩ = false) := fun V hV => by
        have hl5 := cell_lt' c5
        have b5 : V.heap[w.heap.size + 1]? = wr.heap[w.heap.size + 1]? := hV.block _ hl5 (fun e => hnG (by injection e))
        refine ⟨⟨(World.cell?_of_block (a := ⟨Bg, 0, none⟩) (hV.block _ (cell_lt' c1) (fun e => HN.out.1 (by injection e)))).trans c1, (World.cell?_of_block (a := ⟨Bf, 0, none⟩) (hV.block _ (cell_lt' c2) (fun e => HN.out.2.1 (by injection e)))).trans c2, (World.cell?_of_block (a := ⟨Bd, 0, none⟩) (hV.block _ (cell_lt' c3) (fun e => HN.out.2.2.1 (by injection e)))).trans c3, (World.cell?_of_block (a := ⟨w.heap.size + 1, 5, none⟩) b5).trans c5⟩, fun o => by simp [World.frozen?, b5, hbox]⟩
      have hcs2 : ∀ V W' o, Gr G wr.drew V → (V.alloc o).grownBy W' v.ownBlock → (W'.cell? ⟨Bg, 0, none⟩ = some (.pointer (some ⟨G, 0, none⟩)) ∧ W'.cell? ⟨Bf, 0, none⟩ = some (.slice FA fs.length fc) ∧ W'.cell? ⟨Bd, 0, none⟩ = some (.int .i64 dp) ∧ W'.cell? ⟨w.heap.size + 1, 5, none⟩ = some v) ∧ (∀ o, W'.frozen? ⟨w.heap.size + 1, o, none⟩ = false) := fun V W' o hV hW => by
        obtain ⟨⟨p1, p2, p3, p5⟩, pf⟩ := hcs V hV
        have f := fun b (hb : b < w.heap.size + 2) (hl : b < V.heap.size) => app_keep hW hl (own_far HI.out.own hb)
        have b5 := f (w.heap.size + 1) (by omega) (cell_lt' p5)
        exact ⟨⟨(World.cell?_of_block (a := ⟨Bg, 0, none⟩) (f Bg (by omega) (cell_lt' p1))).trans p1, (World.cell?_of_block (a := ⟨Bf, 0, none⟩) (f Bf (by omega) (cell_lt' p2))).trans p2, (World.cell?_of_block (a := ⟨Bd, 0, none⟩) (f Bd (by omega) (cell_lt' p3))).trans p3, (World.cell?_of_block (a := ⟨w.heap.size + 1, 5, none⟩) b5).trans p5⟩, fun o => (World.frozen?_of_block (a := ⟨w.heap.size + 1, o, none⟩) b5).trans (pf o)⟩
      have HCs := Lib.hid hcs
      have HCs2 := Lib.hid hcs2
      have hl5 : ∀ V : World, Gr G wr.drew V → w.heap.size + 1 < V.heap.size := fun V hV => Nat.lt_of_lt_of_le (show w.heap.size + 1 < wr.heap.size by omega) hV.size
      have hl6 : ∀ (V : World) (o : Obj), Gr G wr.drew V → w.heap.size + 2 ≤ (V.alloc o).heap.size := fun V o hV => by have := hl5 V hV; simp; omega
      have HL5 := Lib.hid hl5
      have HL6 := Lib.hid hl6
      clear hl5 hl6
      have hel : es.length = j := HI.out.len
      have hel1 : es.length ≤ 3 := by omega
      clear hkj hkb hI hc ha' hg' hcs hcs2 hbox hel
      go_wp2_with fail
      go_region_law (first
          | (refine step_append_lies _ (by rfl) _ _ _ (by rfl) (w.heap.size + 2) 26 i0 _ 6 80 Tryz.underlying24 hi hz0 hz1 hz2 rfl (by omega) v es.length (elC es) (by rfl) (own5.alloc _) ⟨w5.heap.size, 0, none⟩ 1 1 [.int .i64 d.op, .int .i64 d.k, .int .i64 d.n, .string d.s, .string d.nm, .slice B m cp] (by rfl) (by rfl) (World.news_of_block (cs := #[.int .i64 d.op, .int .i64 d.k, .int .i64 d.n, .string d.s, .string d.nm, .slice B m cp]) (t := 26) (fr := (0, 0)) (heap_alloc_new w5 _)) (by simp [Value.oneCell']) (by omega) (by unfold maxLen; omega) (by omega) hz6 (w5.heap.size + 1) (by simp) ?_; intro gg cap w6 hown6 hgrow6 hat6 hlt6; obtain ⟨⟨q1', q2', q3', q5'⟩, qf'⟩ := HCs2.out w5 w6 _ HX.out.2.2.2.2 hgrow6; have H6 := Lib.hid (And.intro hown6 (And.intro hgrow6 (And.intro hat6 hlt6))); clear hown6 hgrow6 hat6)
          | (go_simp; go_at_call 27; (with_reducible refine HC.out.mono ?_); rintro e w5 ⟨x, d, B, m, cp, a2, rfl, hx, hisx, ha2, hg2, hgr2⟩; obtain ⟨⟨q1, q2, q3, q5⟩, qf⟩ := HCs.out w5 hgr2; have own5 := HI.out.own.kept (Gr.trans (Gr.of_below (b_drew (Below.refl _ _))) hgr2) (.inr (own_far HI.out.own (b := G) (by omega)).symm); have hz5 := HL5.out w5 hgr2; have hz6 := HL6.out w5 (.cells #[.int .i64 d.op, .int .i64 d.k, .int .i64 d.n, .string d.s, .string d.nm, .slice B m cp] 26) hgr2; have HX := Lib.hid (And.intro hx (And.intro hisx (And.intro ha2 (And.intro hg2 hgr2)))); clear hx hisx ha2 hg2 hgr2))
      all_goals
        have hN := HI.out.step (x := x) (d := d) (B := B) (m := m) (cp := cp) (tmp := .cells #[.int .i64 d.op, .int .i64 d.k, .int .i64 d.n, .string d.s, .string d.nm, .slice B m cp] 26) hlt gl HGA.out.1 (by rw [HKJ.out]; exact HX.out.1) HX.out.2.1 HX.out.2.2.1 HX.out.2.2.2.1 HX.out.2.2.2.2 H6.out.1 H6.out.2.1 H6.out.2.2.1
        have HN := Lib.hid hN
        clear hN q1 q2 q3 q5 qf q1' q2' q3' q5' qf' own5 H6 HX HC HCs HCs2 hsum c1 c2 c3 c4 c5 f5
        go_wp2_with fail
        go_roundw
        case rel => exact ⟨j + 1, _, _, by go_num, HN.out⟩
        case measure => simp [intOf]; omega
    · have hjl : j = ks.length := by omega
      have hel := hI.len
      obtain ⟨g, cap, rfl, hgl, _, hlc, hcm, hcl⟩ := own_form hI.own (by omega)
      have hrow := isP_row (P := fun b => w.heap.size + 2 ≤ b) (d := ⟨op, 0, 0, ⟨#[]⟩, ⟨#[]⟩⟩) hcl hgl (by omega) (Nat.zero_le _) (Nat.zero_le _) (fun e he => (hI.is e he).imp fun b hb _ => hb.1)
      obtain ⟨a', ha', hg'⟩ := hI.gen
      rw [hjl] at ha'
      have hc8 : ∀ o, wr.cell? ⟨w.heap.size + 1, o, none⟩ = (#[.int .i64 op, .int .i64 0, .int .i64 0, .string ⟨#[]⟩, .string ⟨#[]⟩, .slice (some ⟨g, 0, none⟩) es.length cap] : Array Value)[o]? := fun o => by simp [World.cell?, hI.box]
      have hc7 : ∀ o, wr.cell? ⟨w.heap.size, o, none⟩ = (#[.int .i64 0, .int .i64 0, .int .i64 0, .string ⟨#[]⟩, .string ⟨#[]⟩, .slice none 0 0] : Array Value)[o]? := fun o => by simp [World.cell?, hI.res]
      have hf7 : ∀ o, wr.frozen? ⟨w.heap.size, o, none⟩ = false := fun o => by simp [World.frozen?, hI.res]
      have hL : (es.map El.x).length = ks.length ∧ ∀ (i : Nat) (h1 : i < (es.map El.x).length) (h2 : i < ks.length), Gn fs k ks[i] (es.map El.x)[i] := by
        refine ⟨by rw [List.length_map, hel, hjl], fun i h1 h2 => ?_⟩
        rw [List.getElem_map]
        exact hI.gn i (by simpa using h1) h2
      have HL := Lib.hid hL
      have HGR := Lib.hid hI.gr
      have HGN := Lib.hid hg'
      have HRow := Lib.hid hrow
      clear hI hL hg' hrow hcl hjl hel
      go_wp2_with fail
      refine bodyPost_ret (v := .agg #[.int .i64 op, .int .i64 0, .int .i64 0, .string ⟨#[]⟩, .string ⟨#[]⟩, .slice (some ⟨g, 0, none⟩) es.length cap]) (by simp [results, Tryz.results47, go_sem, hc7]) rfl ?_
      refine ⟨_, ⟨op, 0, 0, ⟨#[]⟩, ⟨#[]⟩⟩, some ⟨g, 0, none⟩, es.length, cap, a', rfl, ⟨_, rfl, HL.out⟩, IsP.keep (fun b hb hl => set6_heap (by omega) _ _ _ _ _ _) (fun b hb hl => by omega) _ _ _ _ HRow.out, ha', ?_, ?_⟩
      · have := HGN.out
        repeat' (first | (with_reducible exact this) | (with_reducible refine Gen.far ?_ ?_ _) | (dsimp only; omega))
      · have := HGR.out
        repeat' (first | (with_reducible exact this) | (with_reducible refine Gr.set ?_ ?_) | (dsimp only; omega))
end Go.Proofs.YtehkebncdahmcaaGreatDoor.Gen
