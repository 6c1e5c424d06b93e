/- The reference's copy of fields. -/
import Derived.Test.YtdlfhldboagbeaaGreatDoorFldCopy
import Derived.Test.YtdlfhldboagbeaaGreatDoorNmSwap
import Derived.Deep.AppendLies
import Derived.Deep.RegionLaw
namespace Go.Proofs.YtdlfhldboagbeaaGreatDoor.FldY
open Go.RowKit
open ValM LexM NumM ExM Kit ExL ExP RawV Within RawL GenL Gen FrmM NmC FldP FldR
set_option linter.unusedVariables false

structure YI (w : World) (fs : List GenL.Fd) (X : Nat → Ex) (k : Nat) (es : List FE) (v : Value) (wr : World) : Prop where
  le : k ≤ fs.length
  len : es.length = k
  val : ∀ (i : Nat) (h : i < es.length) (h2 : i < fs.length), es[i].nm = fs[i].nm ∧ es[i].kind = fs[i].kind ∧ es[i].ty = fs[i].ty ∧ es[i].x = X i
  own : wr.ownsRow w.heap.size 50 9 v k (feC es)
  is : ∀ e ∈ es, IsP (fun b => w.heap.size ≤ b ∧ some b ≠ v.ownBlock) wr e.x e.x.d e.B e.m
  below : Below w.heap.size w wr
theorem YI.step {w : World} {fs : List GenL.Fd} {X : Nat → Ex} {k : Nat} {es : List FE} {v : Value} {wr V W6 : World} {f : GenL.Fd} {d : Nd} {B : Option Addr} {m c gg cap : Nat} {tmp : Obj} (h : YI w fs X k es v wr) (hk : k < fs.length) (hf : fs[k] = f) (hi : IsP (fun b => wr.heap.size ≤ b) V (X k) d B m) (hb : Below wr.heap.size wr V)
    (hown6 : W6.ownsRow w.heap.size 50 9 (.slice (some ⟨gg, 0, none⟩) (k + 1) cap) (k + 1) (feC es ++ [.string f.nm, .int .i64 f.kind, .int .i64 f.ty, .int .i64 d.op, .int .i64 d.k, .int .i64 d.n, .string d.s, .string d.nm, .slice B m c])) (hgrow6 : (V.alloc tmp).grownBy W6 v.ownBlock) (hat6 : v.ownBlock = some gg ∨ gg = V.heap.size + 1) :
    YI w fs X (k + 1) (es ++ [⟨f.nm, f.kind, f.ty, X k, B, m, c⟩]) (.slice (some ⟨gg, 0, none⟩) (k + 1) cap) W6 := by
  have hd : d = (X k).d := ExS.is_d (IsP.is _ _ _ _ hi)
  subst hd
  have hs := hb.size
  have hbs := h.below.size
  have hge : Value.ownBlock (.slice (some ⟨gg, 0, none⟩) (k + 1) cap) = some gg := rfl
  have hov : ∀ g, v.ownBlock = some g → w.heap.size ≤ g ∧ g < wr.heap.size := fun g hg => h.own.lt g hg
  have f5 : ∀ b, b < V.heap.size → some b ≠ v.ownBlock → W6.heap[b]? = V.heap[b]? := fun b hl hne => NmR.app_keep hgrow6 hl hne
  refine ⟨hk, by simp [h.len], fun i hi1 hi2 => ?_, by rw [feC_snoc]; exact hown6, fun e he => ?_, ?_⟩
  · by_cases hie : i < es.length
    · rw [List.getElem_append_left hie]; exact h.val i hie hi2
    · have e : i = es.length := by simp at hi1; omega
      subst e
      have hkk := h.len
      subst hkk
      simp only [List.getElem_concat_length]
      rw [hf]
      simp
  · rcases List.mem_append.1 he with he | he
    · refine IsP.keep (fun b hb2 hl => (f5 b (by omega) hb2.2).trans (hb.block b hl)) (fun b hb2 hl => ⟨hb2.1, ?_⟩) _ _ _ _ (h.is e he)
      rw [hge]; intro e; injection e with e
      rcases hat6 with g | g
      · exact hb2.2 (by rw [g, e])
      · omega
    · simp at he; subst he
      refine IsP.keep (fun b hb2 hl => f5 b hl (fun e => ?_)) (fun b hb2 hl => ⟨by have h9 : wr.heap.size ≤ b := hb2; omega, ?_⟩) _ _ _ _ hi
      · have h9 : wr.heap.size ≤ b := hb2
        have := (hov b e.symm).2; omega
      · have h9 : wr.heap.size ≤ b := hb2
        rw [hge]; intro e; injection e with e
        rcases hat6 with g | g
        · have := (hov gg g).2; omega
        · omega
  · refine ⟨hgrow6.os.trans (hb.os.trans h.below.os), hgrow6.tape.trans (hb.tape.trans h.below.tape), hgrow6.output.trans (hb.output.trans h.below.output), by have := hgrow6.size; simp at this; omega, fun b hb9 => ?_⟩
    exact (f5 b (by omega) (fun e => by have := (hov b e.symm).1; omega)).trans ((hb.block b (by omega)).trans (h.below.block b hb9))
theorem YI.done {w : World} {fs : List GenL.Fd} {X : Nat → Ex} {es : List FE} {v : Value} {wr : World} (h : YI w fs X fs.length es v wr) : CopyOut fs X w (.returned v) wr := by
  obtain ⟨A, c, hv, hfl⟩ := own_flds h.own h.len
  refine ⟨es.map FE.fd, A, c, by rw [hv], by rw [List.length_map, h.len], hfl, fun k h1 h2 => ?_, h.below⟩
  have h1' : k < es.length := by simpa using h1
  obtain ⟨a, b, c, d⟩ := h.val k h1' h2
  rw [List.getElem_map]
  refine ⟨a, b, c, ?_⟩
  rw [← d]
  exact IsP.is _ _ _ _ (h.is _ (List.getElem_mem h1'))
set_option maxRecDepth 100000 in
set_option maxHeartbeats 8000000 in
theorem refCopies_any (fs : List GenL.Fd) (X : Nat → Ex) (FA : Option Addr) (fc : Nat) (w : World) (hm : fs.length ≤ 1048576) (hf : Flds w FA fs) (hX : ∀ (k : Nat) (h : k < fs.length), Is w (X k) fs[k].d fs[k].A fs[k].n) (hN : ∀ k, k < fs.length → (X k).nodes ≤ 1048576) :
    Calls Tryz.prog 29 #[.slice FA fs.length fc] w (CopyOut fs X w) := by
  obtain ⟨i0, hi, hz0, hz1, hz2⟩ := info_parts infoFd_
  have HF := Lib.hid hf
  have HX := Lib.hid hX
  have HN := Lib.hid hN
  have hI0 : YI w fs X 0 [] (.slice none 0 0) w := ⟨Nat.zero_le _, rfl, fun i h => absurd h (by simp), World.ownsRow_nil _ _ _ _, fun e he => by simp at he, Below.refl _ _⟩
  have HI0 := Lib.hid hI0
  clear hf hX hN hI0
  go_enter Tryz.func29, Tryz.ntmps29
  go_wp2_with fail
  go_loopw [3, 5, 8] (fun v _ i wr => ∃ (k : Nat) (es : List FE) (v' : Value), v' = v ∧ i = .int .i64 k ∧ YI w fs X k es v' wr) (fun _ _ i _ => fs.length - (intOf i).toNat)
  case atStart => exact ⟨0, [], _, rfl, rfl, HI0.out⟩
  case round =>
    obtain ⟨k, es, v, rfl, rfl, hV⟩ := hrel
    have hk := hV.le
    by_cases hlt : k < fs.length
    · obtain ⟨ad, rfl, hat⟩ := HF.out.below hV.below k hlt
      have his := (HX.out k hlt).below hV.below
      obtain ⟨f, hfk⟩ : ∃ f, fs[k] = f := ⟨_, rfl⟩
      rw [hfk] at hat his
      obtain ⟨q0, q1, q2, q3, q4, q5, q6, q7, q8⟩ := hat
      obtain ⟨W5, hW5⟩ : ∃ V, wr.alloc (.cells #[.string f.nm, .int .i64 f.kind, .int .i64 f.ty, .int .i64 f.d.op, .int .i64 f.d.k, .int .i64 f.d.n, .string f.d.s, .string f.d.nm, .slice f.A f.n f.c] 50) = V := ⟨_, rfl⟩
      obtain ⟨B5, hB5⟩ : ∃ B, wr.heap.size = B := ⟨_, rfl⟩
      have hb5 := b_new wr (.cells #[.string f.nm, .int .i64 f.kind, .int .i64 f.ty, .int .i64 f.d.op, .int .i64 f.d.k, .int .i64 f.d.n, .string f.d.s, .string f.d.nm, .slice f.A f.n f.c] 50)
      have hblk5 := World.alloc_heap_new wr (.cells #[.string f.nm, .int .i64 f.kind, .int .i64 f.ty, .int .i64 f.d.op, .int .i64 f.d.k, .int .i64 f.d.n, .string f.d.s, .string f.d.nm, .slice f.A f.n f.c] 50)
      rw [hW5] at hb5 hblk5
      rw [hB5] at hblk5
      have hs5 : B5 < W5.heap.size := (Array.getElem?_eq_some_iff.1 hblk5).1
      have hc : ∀ V : World, Below W5.heap.size W5 V → Calls Tryz.prog 30 #[.agg #[.int .i64 f.d.op, .int .i64 f.d.k, .int .i64 f.d.n, .string f.d.s, .string f.d.nm, .slice f.A f.n f.c]] V (Made (X k) V) := fun V hV9 => (NmR.refCopy_any (X k) f.d f.A f.n f.c V (HN.out k hlt) ((his.below hb5).below hV9)).mono fun e w' h => NmS.made_of his h
      have hcell : ∀ V : World, Below W5.heap.size W5 V → V.cell? ⟨B5, 0, none⟩ = some (.string f.nm) ∧ V.cell? ⟨B5, 1, none⟩ = some (.int .i64 f.kind) ∧ V.cell? ⟨B5, 2, none⟩ = some (.int .i64 f.ty) ∧ V.cell? ⟨B5, 3, none⟩ = some (.int .i64 f.d.op) ∧ V.cell? ⟨B5, 4, none⟩ = some (.int .i64 f.d.k) ∧ V.cell? ⟨B5, 5, none⟩ = some (.int .i64 f.d.n) ∧ V.cell? ⟨B5, 6, none⟩ = some (.string f.d.s) ∧ V.cell? ⟨B5, 7, none⟩ = some (.string f.d.nm) ∧ V.cell? ⟨B5, 8, none⟩ = some (.slice f.A f.n f.c) := fun V hV9 => by
        have h5 : V.heap[B5]? = _ := (hV9.block _ hs5).trans hblk5
        exact ⟨by simp [World.cell?, h5], by simp [World.cell?, h5], by simp [World.cell?, h5], by simp [World.cell?, h5], by simp [World.cell?, h5], by simp [World.cell?, h5], by simp [World.cell?, h5], by simp [World.cell?, h5], by simp [World.cell?, h5]⟩
      have hown : ∀ V : World, Below W5.heap.size W5 V → V.ownsRow w.heap.size 50 9 v k (feC es) := fun V hV9 => own_below hV.own (b_trans hb5 hV9)
      have hsz : ∀ (V : World) (o : Obj), Below W5.heap.size W5 V → w.heap.size ≤ (V.alloc o).heap.size := fun V o hV9 => by
        have h1 := hV.below.size
        have h2 := hb5.size
        have h3 := hV9.size
        simp; omega
      have happ : ∀ (w6 w7 : World) (o : Obj), Below W5.heap.size W5 w6 → (w6.alloc o).grownBy w7 v.ownBlock → w7.cell? ⟨B5, 0, none⟩ = some (.string f.nm) ∧ w7.cell? ⟨B5, 1, none⟩ = some (.int .i64 f.kind) ∧ w7.cell? ⟨B5, 2, none⟩ = some (.int .i64 f.ty) ∧ w7.cell? ⟨B5, 3, none⟩ = some (.int .i64 f.d.op) ∧ w7.cell? ⟨B5, 4, none⟩ = some (.int .i64 f.d.k) ∧ w7.cell? ⟨B5, 5, none⟩ = some (.int .i64 f.d.n) ∧ w7.cell? ⟨B5, 6, none⟩ = some (.string f.d.s) ∧ w7.cell? ⟨B5, 7, none⟩ = some (.string f.d.nm) ∧ w7.cell? ⟨B5, 8, none⟩ = some (.slice f.A f.n f.c) := fun w6 w7 o h1 h2 => by
        have hB : B5 = wr.heap.size := hB5.symm
        have h5 : w6.heap[B5]? = _ := (h1.block _ hs5).trans hblk5
        have h7 : w7.heap[B5]? = _ := (NmR.app_keep h2 (Array.getElem?_eq_some_iff.1 h5).1 (fun e => by have := (hV.own.lt B5 e.symm).2; omega)).trans h5
        exact ⟨by simp [World.cell?, h7], by simp [World.cell?, h7], by simp [World.cell?, h7], by simp [World.cell?, h7], by simp [World.cell?, h7], by simp [World.cell?, h7], by simp [World.cell?, h7], by simp [World.cell?, h7], by simp [World.cell?, h7]⟩
      have HApp := Lib.hid happ
      have HC := Lib.hid hc
      have HCell := Lib.hid hcell
      have HOwn := Lib.hid hown
      have HSz := Lib.hid hsz
      have HV := Lib.hid hV
      have HW5 := Lib.hid hW5
      have HB5 := Lib.hid hB5
      have HBw5 := Lib.hid hb5
      have HFk := Lib.hid hfk
      have hbl := Below.refl W5.heap.size W5
      obtain ⟨k0, k1, k2, k3, k4, k5, k6, k7, k8⟩ := hcell W5 hbl
      obtain ⟨L, hL⟩ : ∃ L, feC es = L := ⟨_, rfl⟩
      rw [hL] at HOwn
      have HL := Lib.hid hL
      have hk9 : k ≤ 1048576 := by omega
      clear happ hc his hV hcell hown hsz hW5 hB5 hb5 hfk hblk5 hL
      go_wp2_with fail
      rw [HW5.out, HB5.out]
      go_upto_region 5 with fail
      go_region_held3 (fun V => V.cell? ⟨B5, 0, none⟩ = some (.string f.nm) ∧ V.cell? ⟨B5, 1, none⟩ = some (.int .i64 f.kind) ∧ V.cell? ⟨B5, 2, none⟩ = some (.int .i64 f.ty) ∧ V.cell? ⟨B5, 3, none⟩ = some (.int .i64 f.d.op) ∧ V.cell? ⟨B5, 4, none⟩ = some (.int .i64 f.d.k) ∧ V.cell? ⟨B5, 5, none⟩ = some (.int .i64 f.d.n) ∧ V.cell? ⟨B5, 6, none⟩ = some (.string f.d.s) ∧ V.cell? ⟨B5, 7, none⟩ = some (.string f.d.nm) ∧ V.cell? ⟨B5, 8, none⟩ = some (.slice f.A f.n f.c)) (first | (with_reducible exact hS7) | (with_reducible exact HCell.out _ hbl) | (with_reducible exact HCell.out _ (b_drew hbl)) | (with_reducible exact HCell.out _ (b_more hbl _)) | (with_reducible exact HCell.out _ (b_more (b_drew hbl) _)) | (with_reducible exact HCell.out _ (b_drew (b_more hbl _))))
        (first | (refine step_append_lies _ (by rfl) _ _ _ (by rfl) w.heap.size 50 i0 _ 9 112 Tryz.underlying22 hi hz0 hz1 hz2 rfl (by omega) v k L (by rfl) (own6.alloc _) ⟨w6.heap.size, 0, none⟩ 1 1 [.string f.nm, .int .i64 f.kind, .int .i64 f.ty, .int .i64 d.op, .int .i64 d.k, .int .i64 d.n, .string d.s, .string d.nm, .slice B m c] (by rfl) (by rfl) (World.news_of_block (cs := #[.string f.nm, .int .i64 f.kind, .int .i64 f.ty, .int .i64 d.op, .int .i64 d.k, .int .i64 d.n, .string d.s, .string d.nm, .slice B m c]) (t := 50) (fr := (0, 0)) (heap_alloc_new w6 _)) (by simp [Value.oneCell']) (by omega) (by unfold maxLen; omega) (by omega) hz9 (w6.heap.size + 1) (by simp) ?_; intro gg cap w7 hown7 hgrow7 hat7 hlt7; have hS7 := HApp.out w6 w7 _ hbl hgrow7; have H7 := Lib.hid (And.intro hown7 (And.intro hgrow7 hat7)); clear hown7 hgrow7 hat7 hlt7) | (go_at_call 30; (with_reducible refine (HC.out _ ?_).mono ?_); (first | exact hbl | exact b_drew hbl); rintro e w6 ⟨d, B, m, c, rfl, hi2, hb6⟩; have hbl : Below W5.heap.size W5 w6 := (by first | exact hbl.trans (hb6.mono hbl.size) | exact (b_drew hbl).trans (hb6.mono hbl.size)); obtain ⟨k0, k1, k2, k3, k4, k5, k6, k7, k8⟩ := HCell.out w6 hbl; have own6 := HOwn.out w6 hbl; have hz9 := HSz.out w6 (.cells #[.string f.nm, .int .i64 f.kind, .int .i64 f.ty, .int .i64 d.op, .int .i64 d.k, .int .i64 d.n, .string d.s, .string d.nm, .slice B m c] 50) hbl; have H6 := Lib.hid (And.intro hi2 hbl); clear hi2 hb6))
      all_goals
          have hi2 := H6.out.1
          have hbl6 := H6.out.2
          have hN := HV.out.step (c := c) hlt HFk.out (IsP.imp hi2 fun b hb9 _ => by have h1 := HBw5.out.size; have h9 : _ ≤ b := hb9; simp at h9; omega) (b_trans HBw5.out hbl6) (by rw [HL.out]; exact H7.out.1) H7.out.2.1 (by first | exact H7.out.2.2 | (have h := H7.out.2.2; simp at h; exact h))
          have HN := Lib.hid hN
          clear hN hi2 hbl6
          go_wp2_with fail
          go_roundw
          case rel => exact ⟨k + 1, _, _, rfl, by go_num, HN.out⟩
          case measure => simp [intOf]; omega
    · have hkl : k = fs.length := by omega
      subst hkl
      have hO := hV.done
      have HO := Lib.hid hO
      clear hO hV
      go_wp2_with fail
      go_ret
      exact HO.out
end Go.Proofs.YtdlfhldboagbeaaGreatDoor.FldY
