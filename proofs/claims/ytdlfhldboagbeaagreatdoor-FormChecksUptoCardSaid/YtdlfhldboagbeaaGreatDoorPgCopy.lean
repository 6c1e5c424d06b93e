/- Package page: Copy. What page.Copy gives, as a list of pages; the reference's copy of no fields. -/
import Derived.Test.YtdlfhldboagbeaaGreatDoorPg
import Derived.Test.YtdlfhldboagbeaaGreatDoorNmCopy
import Derived.Deep.MidRow
import Derived.Deep.AppendLies
import Derived.Deep.Upon
import Derived.Deep.DeepCutAuto
namespace Go.Proofs.YtdlfhldboagbeaaGreatDoor.PgC
open Go.RowKit
open ValM LexM NumM ExM NmM Kit ExL ExP NmC NmP NmA NmT RawV Within GenL FldP FrmM PgM
set_option linter.unusedVariables false

theorem wpList_append_zero {P : Program} {w : World} {ops : Array Oper} {rest : List Oper} {o : Oper} {a : Act} {Q : Exit → Act → World → Prop} (hgd : o.guard = none) (s x : Operand) (t : TypeId)
    (ho : o.op = .call { callee := .builtin .append, args := #[s, x], argTypes := #[t, t] }) (e : TypeId) (i : TypeInfo) (ht : P.underlying t = some (.slice e)) (hi : P.info? e = some i)
    (hs : a.eval s = .slice none 0 0) (A : Option Addr) (c : Nat) (hx : a.eval x = .slice A 0 c)
    (h : wpList P ops Q rest (a.put o.dst (.slice none 0 0)) w) : wpList P ops Q (o :: rest) a w := by
  refine wpList_plain hgd fun K hK => ?_
  have hsrc : Src P i.size t (.slice A 0 c) 0 [] w := by
    cases A with
    | none => exact Src.ofNil w ht c
    | some ad => exact Src.ofSlice w ht ad 0 c [] (by simp) (fun j u h => by simp at h) (fun u h => by cases h)
  have hrun := run_append_nothing (P := P) w t t o.type e i ht hi none 0 0 (Nat.le_refl _) (.slice A 0 c) hsrc
  unfold Oper.wp
  simp [execOp, ho, resolve, invoke, builtin, hs, hx, hrun, Result.andThen]
  exact hK _ _ h
theorem blk_set {w : World} {B : Nat} {cs : Array Value} {t : TypeId} {fr : Nat × Nat} (h : w.heap[B]? = some (.cells cs t fr)) (o : Nat) (v : Value) : (w.setCell ⟨B, o, none⟩ v).heap[B]? = some (.cells (cs.setIfInBounds o v) t fr) := by
  simp [World.setCell, Array.getElem?_modify, h]
theorem set8_list {xs r : List Value} {i : Nat} (h : i = xs.length) (hr : 8 ≤ r.length) (v0 v1 v2 v3 v4 v5 v6 v7 : Value) : (((((((((xs ++ r).set (i) v0).set (i + 1) v1).set (i + 2) v2).set (i + 3) v3).set (i + 4) v4).set (i + 5) v5).set (i + 6) v6).set (i + 7) v7) = (xs ++ [v0, v1, v2, v3, v4, v5, v6, v7]) ++ r.drop 8 := by
  match r, hr with
  | r0 :: r1 :: r2 :: r3 :: r4 :: r5 :: r6 :: r7 :: t, _ =>
    subst h
    rw [set_app xs _ 0 _ (Nat.add_zero _).symm, set_app xs _ 1 _ rfl, set_app xs _ 2 _ rfl, set_app xs _ 3 _ rfl, set_app xs _ 4 _ rfl, set_app xs _ 5 _ rfl, set_app xs _ 6 _ rfl, set_app xs _ 7 _ rfl]
    simp
theorem set8_own {w : World} {base g n cap i : Nat} {xs r : List Value} {e : TypeId} (h : w.ownsRow base e 8 (.slice (some ⟨g, 0, none⟩) n cap) n (xs ++ r)) (hi : i = xs.length) (hr : 8 ≤ r.length) (v0 v1 v2 v3 v4 v5 v6 v7 : Value) :
    (w.setCells g i [v0, v1, v2, v3, v4, v5, v6, v7]).ownsRow base e 8 (.slice (some ⟨g, 0, none⟩) n cap) n ((xs ++ [v0, v1, v2, v3, v4, v5, v6, v7]) ++ r.drop 8) := by
  rw [← set8_list hi hr]
  exact ((((((((h.stored (i) v0).1.stored (i + 1) v1).1.stored (i + 2) v2).1.stored (i + 3) v3).1.stored (i + 4) v4).1.stored (i + 5) v5).1.stored (i + 6) v6).1.stored (i + 7) v7).1
theorem heap_cells (g : Nat) (vs : List Value) : ∀ (o : Nat) (w : World) (b : Nat), b ≠ g → (w.setCells g o vs).heap[b]? = w.heap[b]? := by
  induction vs with
  | nil => exact fun _ _ _ _ => rfl
  | cons v r ih => exact fun o w b hb => (ih (o + 1) (w.setCell ⟨g, o, none⟩ v) b hb).trans (Below.heap_setCell w ⟨g, o, none⟩ v b hb)
theorem below_cells {B g : Nat} {a : World} (hg : B ≤ g) (vs : List Value) : ∀ (o : Nat) (w : World), Below B a w → Below B a (w.setCells g o vs) := by
  induction vs with
  | nil => exact fun _ _ h => h
  | cons v r ih => exact fun o w h => ih (o + 1) (w.setCell ⟨g, o, none⟩ v) (h.setCell (p := ⟨g, o, none⟩) hg v)
theorem size_cells (g : Nat) (vs : List Value) : ∀ (o : Nat) (w : World), (w.setCells g o vs).heap.size = w.heap.size := by
  induction vs with
  | nil => exact fun _ _ => rfl
  | cons v r ih => exact fun o w => (ih (o + 1) (w.setCell ⟨g, o, none⟩ v)).trans (sz_set _ _ _)
theorem grown_cells (g : Nat) (vs : List Value) : ∀ (o : Nat) (w : World), w.grownBy (w.setCells g o vs) (some g) := by
  induction vs with
  | nil => exact fun o w => ⟨rfl, rfl, rfl, Nat.le_refl _, fun _ _ _ => rfl⟩
  | cons v r ih =>
    intro o w
    have h := ih (o + 1) (w.setCell ⟨g, o, none⟩ v)
    exact ⟨h.os, h.tape, h.output, by have h2 := h.size; rw [sz_set] at h2; exact h2, fun k hk hne => (h.block k (by rw [sz_set]; exact hk) hne).trans (Below.heap_setCell w ⟨g, o, none⟩ v k (fun e => hne (by rw [e])))⟩
theorem infoPg : (Tryz.prog.info? 62).map (fun i => (i.zero, i.size, i.bytes)) = some (some (.agg #[.string ⟨#[]⟩, .slice none 0 0, .int .i64 0, .int .i64 0, .int .i64 0, .string ⟨#[]⟩, .string ⟨#[]⟩, .slice none 0 0]), 8, 120) := by kernel_rfl
/-- A page of a copy, and where its parts lie. -/
structure PQ where
  e : PE
  lo : Nat
  mid : Nat
  hi : Nat
structure PQok (w : World) (B : Nat) (q : PQ) : Prop where
  own : w.ownsRow q.lo 9 1 (.slice q.e.F q.e.fs.length q.e.fc) q.e.fs.length (strV q.e.fs)
  blk : ∀ g, (Value.slice q.e.F q.e.fs.length q.e.fc).ownBlock = some g → g < q.mid
  skip : IsP (fun b => q.mid ≤ b ∧ b < q.hi) w q.e.x q.e.x.d q.e.B q.e.m
  ord : B < q.lo ∧ q.lo ≤ q.mid ∧ q.mid ≤ q.hi ∧ q.hi ≤ w.heap.size
/-- What lies between two places stays. -/
theorem PQok.keep {w w' : World} {B : Nat} {q : PQ} {row : Option Nat} (h : PQok w B q) (hg : w.grownBy w' row) (hr : ∀ g, row = some g → g < q.lo ∨ q.hi ≤ g) : PQok w' B q := by
  obtain ⟨h1, h2, h3, h4⟩ := h.ord
  refine ⟨h.own.kept hg ?_, h.blk, IsP.keep (fun b hb hl => hg.block b hl (fun e => by have := hr b e.symm; omega)) (fun b hb _ => hb) _ _ _ _ h.skip, h1, h2, h3, Nat.le_trans h4 hg.size⟩
  rcases ho : (Value.slice q.e.F q.e.fs.length q.e.fc).ownBlock with _ | g
  · exact .inl rfl
  · refine .inr fun e => ?_
    have h5 := h.blk g ho
    have h6 := (h.own.lt g ho).1
    have := hr g e.symm
    omega
structure CI (w : World) (ps : List PE) (k : Nat) (qs : List PQ) (wr : World) : Prop where
  le : k ≤ ps.length
  len : qs.length = k
  val : ∀ (i : Nat) (h : i < qs.length) (h2 : i < ps.length), qs[i].e.nm = ps[i].nm ∧ qs[i].e.fs = ps[i].fs ∧ qs[i].e.x = ps[i].x
  own : ∃ r : List Value, wr.ownsRow w.heap.size 62 8 (.slice (some ⟨w.heap.size, 0, none⟩) ps.length ps.length) ps.length (peC (qs.map PQ.e) ++ r)
  ok : ∀ q ∈ qs, PQok wr w.heap.size q
  seq : qs.Pairwise fun a b => a.hi ≤ b.lo
  below : Below w.heap.size w wr
  lt : w.heap.size < wr.heap.size
/-- A copy of pages. -/
def CopyOut (ps : List PE) (w : World) (r : Ending) (w' : World) : Prop := ∃ qs, r = .returned (.slice (some ⟨w.heap.size, 0, none⟩) ps.length ps.length) ∧ CI w ps ps.length qs w'
theorem CI.step {w : World} {ps : List PE} {k : Nat} {qs : List PQ} {wr W6 : World} {e : PE} {F B : Option Addr} {fc m c mid : Nat} (h : CI w ps k qs wr) (hk : k < ps.length) (he : ps[k] = e) (hb : Below wr.heap.size wr W6)
    (hown : W6.ownsRow (wr.heap.size + 1) 9 1 (.slice F e.fs.length fc) e.fs.length (strV e.fs)) (hblk : ∀ g, (Value.slice F e.fs.length fc).ownBlock = some g → g < mid) (hs : IsP (fun b => mid ≤ b) W6 e.x e.x.d B m) (hmid : wr.heap.size + 1 ≤ mid ∧ mid ≤ W6.heap.size) :
    CI w ps (k + 1) (qs ++ [⟨⟨e.nm, e.fs, F, fc, e.x, B, m, c⟩, wr.heap.size + 1, mid, W6.heap.size⟩]) (W6.setCells w.heap.size (k * 8) [.string e.nm, .slice F e.fs.length fc, .int .i64 e.x.d.op, .int .i64 e.x.d.k, .int .i64 e.x.d.n, .string e.x.d.s, .string e.x.d.nm, .slice B m c]) := by
  have hw := h.lt
  have hsz := hb.size
  have hgc := grown_cells w.heap.size [.string e.nm, .slice F e.fs.length fc, .int .i64 e.x.d.op, .int .i64 e.x.d.k, .int .i64 e.x.d.n, .string e.x.d.s, .string e.x.d.nm, .slice B m c] (k * 8) W6
  have hgb : wr.grownBy W6 none := ⟨hb.os, hb.tape, hb.output, hb.size, fun k hk _ => hb.block k hk⟩
  refine ⟨hk, by simp [h.len], fun i hi1 hi2 => ?_, ?_, fun q hq => ?_, ?_, ?_, ?_⟩
  · by_cases hie : i < qs.length
    · rw [List.getElem_append_left hie]; exact h.val i hie hi2
    · have e9 : i = qs.length := by simp at hi1; omega
      subst e9
      have hkk := h.len
      subst hkk
      simp only [List.getElem_concat_length]
      rw [he]
      exact ⟨rfl, rfl, rfl⟩
  · obtain ⟨r, hr⟩ := h.own
    have hl : (peC (qs.map PQ.e) ++ r).length = ps.length * 8 := hr.1
    rw [List.length_append, peC_len, List.length_map, h.len] at hl
    have hr1 : W6.ownsRow w.heap.size 62 8 (.slice (some ⟨w.heap.size, 0, none⟩) ps.length ps.length) ps.length (peC (qs.map PQ.e) ++ r) := hr.kept (row := none) hgb (.inr (by simp [Value.ownBlock]))
    refine ⟨r.drop 8, ?_⟩
    rw [List.map_append]
    show World.ownsRow _ _ _ _ _ _ (peC (qs.map PQ.e ++ [⟨e.nm, e.fs, F, fc, e.x, B, m, c⟩]) ++ r.drop 8)
    rw [peC_snoc]
    exact set8_own hr1 (by rw [peC_len, List.length_map, h.len]) (by omega) _ _ _ _ _ _ _ _
  · rcases List.mem_append.1 hq with hq | hq
    · have h1 := h.ok q hq
      exact (h1.keep hgb (fun g e => by cases e)).keep hgc (fun g e9 => by injection e9 with e9; have := h1.ord; omega)
    · simp at hq; subst hq
      have h1 : PQok W6 w.heap.size ⟨⟨e.nm, e.fs, F, fc, e.x, B, m, c⟩, wr.heap.size + 1, mid, W6.heap.size⟩ :=
        ⟨hown, hblk, IsP.keep (fun b _ _ => rfl) (fun b hb2 hl => ⟨hb2, hl⟩) _ _ _ _ hs, by show w.heap.size < wr.heap.size + 1; omega, hmid.1, hmid.2, Nat.le_refl _⟩
      exact h1.keep hgc (fun g e9 => by injection e9 with e9; subst e9; show w.heap.size < wr.heap.size + 1 ∨ _; omega)
  · rw [List.pairwise_append]
    refine ⟨h.seq, List.pairwise_singleton _ _, fun a ha b hb2 => ?_⟩
    simp at hb2; subst hb2
    have := (h.ok a ha).ord.2.2.2
    show a.hi ≤ wr.heap.size + 1
    omega
  · exact below_cells (Nat.le_refl _) _ _ _ (h.below.trans (hb.mono h.below.size))
  · rw [size_cells]; omega
set_option maxRecDepth 100000 in
set_option maxHeartbeats 8000000 in
theorem copy_any (ps : List PE) (PA : Option Addr) (pc : Nat) (w : World) (hm : ps.length ≤ 1048576) (hp : Pgs w PA ps) (ho : PgsOk w ps) (hlp : ∀ e ∈ ps, e.fs.length ≤ 1048576 ∧ e.x.nodes ≤ 1048576) :
    Calls Tryz.prog 26 #[.slice PA ps.length pc] w (CopyOut ps w) := by
  obtain ⟨i0, hi, hz0, hz1, hz2⟩ := info_parts infoPg
  obtain ⟨s0, hsi, hsz0, hsz1, hsz2⟩ := info_parts NmA.infoStr
  have HP := Lib.hid hp
  have HO := Lib.hid ho
  have HLp := Lib.hid hlp
  have hI0 : ∀ W', W'.ownsRow w.heap.size 62 8 (.slice (some ⟨w.heap.size, 0, none⟩) ps.length ps.length) ps.length (madeCells (Value.agg #[.string ⟨#[]⟩, .slice none 0 0, .int .i64 0, .int .i64 0, .int .i64 0, .string ⟨#[]⟩, .string ⟨#[]⟩, .slice none 0 0]).cells (ps.length * 8)).toList → w.grownBy W' none → CI w ps 0 [] W' := fun W' h1 h2 =>
    ⟨Nat.zero_le _, rfl, fun i h => absurd h (by simp), ⟨_, h1⟩, fun q hq => by simp at hq, List.Pairwise.nil, (Below.refl _ _).grown h2 (Nat.le_refl _) (fun k e => by cases e), (h1.lt w.heap.size rfl).2⟩
  have HI0 := Lib.hid hI0
  clear hp ho hlp hI0
  go_enter Tryz.func26, Tryz.ntmps26
  go_wp2_with ((at_make; refine wpList_make_full _ rfl _ _ 23 rfl w.heap.size 62 i0 _ 8 Tryz.underlying23 hi hz0 hz1 .i64 .i64 _ _ ps.length rfl rfl rfl rfl (by rw [hz2]; omega) (by unfold maxLen; omega) (Nat.le_refl _) ?_; intro w1 hown hgrow))
  have HI := Lib.hid (HI0.out w1 hown hgrow)
  clear hown hgrow
  go_wp2_with fail
  go_loopw [4, 5, 11] (fun _ _ i wr => ∃ (k : Nat) (qs : List PQ), i = .int .i64 k ∧ CI w ps k qs wr) (fun _ _ i _ => ps.length - (intOf i).toNat)
  case atStart => exact ⟨0, [], rfl, HI.out⟩
  case round =>
    obtain ⟨k, qs, rfl, hV⟩ := hrel
    have hk := hV.le
    by_cases hlt : k < ps.length
    · obtain ⟨ad, rfl, hat⟩ := HP.out.below hV.below k hlt
      have hoe := (HO.out ps[k] (List.getElem_mem hlt)).below hV.below
      have hle := HLp.out ps[k] (List.getElem_mem hlt)
      obtain ⟨e, hek⟩ : ∃ e, ps[k] = e := ⟨_, rfl⟩
      rw [hek] at hat hoe hle
      obtain ⟨q0, q1, q2, q3, q4, q5, q6, q7⟩ := hat
      obtain ⟨W5, hW5⟩ : ∃ V, wr.alloc (.cells #[.string e.nm, .slice e.F e.fs.length e.fc, .int .i64 e.x.d.op, .int .i64 e.x.d.k, .int .i64 e.x.d.n, .string e.x.d.s, .string e.x.d.nm, .slice e.B e.m e.c] 62) = V := ⟨_, rfl⟩
      obtain ⟨B5, hB5⟩ : ∃ B, wr.heap.size = B := ⟨_, rfl⟩
      have hb5 := b_new wr (.cells #[.string e.nm, .slice e.F e.fs.length e.fc, .int .i64 e.x.d.op, .int .i64 e.x.d.k, .int .i64 e.x.d.n, .string e.x.d.s, .string e.x.d.nm, .slice e.B e.m e.c] 62)
      have hblk5 := World.alloc_heap_new wr (.cells #[.string e.nm, .slice e.F e.fs.length e.fc, .int .i64 e.x.d.op, .int .i64 e.x.d.k, .int .i64 e.x.d.n, .string e.x.d.s, .string e.x.d.nm, .slice e.B e.m e.c] 62)
      have hsz5 : W5.heap.size = wr.heap.size + 1 := by rw [← hW5]; simp
      rw [hW5] at hb5 hblk5
      rw [hB5] at hblk5 hsz5
      have hs5 : B5 < W5.heap.size := (Array.getElem?_eq_some_iff.1 hblk5).1
      have hB5l : wr.heap.size ≤ B5 := Nat.le_of_eq hB5
      have hB5g : B5 ≤ wr.heap.size := Nat.le_of_eq hB5.symm
      have hrow := hoe.row.below hb5
      have his := hoe.skip
      have f1 : W5.frozen? ⟨B5, 1, none⟩ = false := by simp [World.frozen?, hblk5]
      have k1 : W5.cell? ⟨B5, 1, none⟩ = some (.slice e.F e.fs.length e.fc) := by simp [World.cell?, hblk5]
      have HV := Lib.hid hV
      have HW5 := Lib.hid hW5
      have HB5 := Lib.hid hB5
      have HBw5 := Lib.hid hb5
      have HEk := Lib.hid hek
      have HBlk5 := Lib.hid hblk5
      have HS5 := Lib.hid hsz5
      have HRow := Lib.hid hrow
      have HIs := Lib.hid his
      have HLe := Lib.hid hle
      clear hV hW5 hB5 hb5 hek hblk5 hsz5 hrow his hle hoe
      go_upto_region 5 with fail
      rw [HW5.out, HB5.out]
      go_cut [] (fun wx => ∃ (F : Option Addr) (fc : Nat), wx.heap[B5]? = some (.cells #[.string e.nm, .slice F e.fs.length fc, .int .i64 e.x.d.op, .int .i64 e.x.d.k, .int .i64 e.x.d.n, .string e.x.d.s, .string e.x.d.nm, .slice e.B e.m e.c] 62 (0, 0)) ∧ wx.ownsRow (wr.heap.size + 1) 9 1 (.slice F e.fs.length fc) e.fs.length (strV e.fs) ∧ (∀ g, (Value.slice F e.fs.length fc).ownBlock = some g → g < wx.heap.size) ∧ Below wr.heap.size wr wx ∧ B5 < wx.heap.size)
      case first =>
        generalize e.F = eF at *
        by_cases hz : e.fs.length = 0
        · have hnil : e.fs = [] := List.eq_nil_of_length_eq_zero hz
          have hE0 : (strV e.fs) = [] := by rw [hnil]; rfl
          have hfin : ∀ V, V = W5.setCell ⟨B5, 1, none⟩ (.slice none 0 0) → V.heap[B5]? = some (.cells #[.string e.nm, .slice none 0 0, .int .i64 e.x.d.op, .int .i64 e.x.d.k, .int .i64 e.x.d.n, .string e.x.d.s, .string e.x.d.nm, .slice e.B e.m e.c] 62 (0, 0)) ∧ Below wr.heap.size wr V ∧ B5 < V.heap.size := fun V hV => by
            rw [hV]
            exact ⟨blk_set HBlk5.out 1 _, HBw5.out.setCell (p := ⟨B5, 1, none⟩) hB5l _, by rw [sz_set]; exact hs5⟩
          have HFin := Lib.hid (hfin _ rfl)
          have HZ := Lib.hid hz
          have HE0 := Lib.hid hE0
          clear hfin hnil hE0
          rw [hz] at k1 ⊢
          clear hz
          go_wp2_with (at_builtin; refine wpList_append_zero rfl _ _ 34 rfl 9 s0 Tryz.underlying34 hsi rfl eF e.fc rfl ?_)
          go_meet
          rw [HZ.out, HE0.out]
          exact ⟨none, 0, HFin.out.1, World.ownsRow_nil _ _ _ _, (fun g hg => by cases hg), HFin.out.2.1, HFin.out.2.2⟩
        · have hpos : 0 < e.fs.length := by omega
          obtain ⟨a2, rfl, _⟩ := HRow.out 0 hpos
          have hnews : ∀ j u, (strV e.fs)[j]? = some u → W5.cell? (a2.add j) = some u := fun j u hu => by
            unfold strV at hu
            rw [List.getElem?_map] at hu
            have hj : j < e.fs.length := by
              rcases Nat.lt_or_ge j e.fs.length with h | h
              · exact h
              · rw [List.getElem?_eq_none h] at hu; cases hu
            rw [List.getElem?_eq_getElem hj] at hu
            injection hu with hu
            obtain ⟨a3, e3, hc⟩ := HRow.out j hj
            injection e3 with e3
            subst e3 hu
            exact hc
          have hl1 : (strV e.fs).length = e.fs.length * 1 := by rw [strV_len, Nat.mul_one]
          have hle := HLe.out.1
          have hszw : wr.heap.size + 1 ≤ W5.heap.size := by have := HS5.out; omega
          have HNews := Lib.hid hnews
          have HL1 := Lib.hid hl1
          clear hnews hl1
          obtain ⟨ln, hln⟩ : ∃ ln, e.fs.length = ln := ⟨_, rfl⟩
          rw [hln] at k1 hpos HL1 hle HBlk5 ⊢
          have HLn := Lib.hid hln
          clear hln hz
          have HOne := Lib.hid (strV_one (L := e.fs))
          obtain ⟨sv, hsv⟩ : ∃ sv, strV e.fs = sv := ⟨_, rfl⟩
          rw [hsv] at HNews HL1 HOne
          have HSv := Lib.hid hsv
          clear hsv
          go_wp2_with (at_builtin; refine wpList_append_lies _ rfl _ _ 34 rfl (wr.heap.size + 1) 9 s0 (.string ⟨#[]⟩) 1 16 Tryz.underlying34 hsi hsz0 hsz1 hsz2 rfl (by decide) (.slice none 0 0) 0 [] rfl (World.ownsRow_nil _ _ _ _) a2 ln e.fc sv rfl HL1.out HNews.out HOne.out hpos (by unfold maxLen; omega) (by omega) hszw W5.heap.size rfl ?_)
          intro gg cap w6 hown6 hgrow6 hat6 hlt6
          have hblk6 := (hgrow6.block B5 hs5 (by simp [Value.ownBlock])).trans HBlk5.out
          have k16 : w6.cell? ⟨B5, 1, none⟩ = some (.slice (some a2) ln e.fc) := by simp [World.cell?, hblk6]
          have f16 : w6.frozen? ⟨B5, 1, none⟩ = false := by simp [World.frozen?, hblk6]
          have hggl : W5.heap.size ≤ gg := by
            rcases hat6 with h | h
            · cases h
            · omega
          have hggB : gg ≠ B5 := by omega
          have hfin : ∀ v, v = Value.slice (some ⟨gg, 0, none⟩) ln cap → ∀ V, V = w6.setCell ⟨B5, 1, none⟩ v → V.heap[B5]? = some (.cells #[.string e.nm, .slice (some ⟨gg, 0, none⟩) ln cap, .int .i64 e.x.d.op, .int .i64 e.x.d.k, .int .i64 e.x.d.n, .string e.x.d.s, .string e.x.d.nm, .slice e.B e.m e.c] 62 (0, 0)) ∧ V.ownsRow (wr.heap.size + 1) 9 1 (.slice (some ⟨gg, 0, none⟩) ln cap) ln sv ∧ (∀ g, (Value.slice (some ⟨gg, 0, none⟩) ln cap).ownBlock = some g → g < V.heap.size) ∧ Below wr.heap.size wr V ∧ B5 < V.heap.size := fun v hv V hV => by
            subst hv
            rw [hV]
            have hgs := hgrow6.size
            refine ⟨blk_set hblk6 1 _, ?_, fun g hg => ?_, ((HBw5.out.grown hgrow6 HBw5.out.size (fun k e => by cases e)).setCell (p := ⟨B5, 1, none⟩) hB5l _), by rw [sz_set]; omega⟩
            · have h1 : w6.ownsRow (wr.heap.size + 1) 9 1 (.slice (some ⟨gg, 0, none⟩) ln cap) ln sv := by simpa using hown6
              refine World.ownsRow.kept (row := some B5) h1 ⟨rfl, rfl, rfl, by rw [sz_set]; exact Nat.le_refl _, fun k _ hk => Below.heap_setCell _ _ _ k (fun e => hk (by rw [e]))⟩ (.inr ?_)
              intro e9
              injection e9 with e9
              exact hggB e9
            · have e9 : some gg = some g := hg
              injection e9 with e9
              rw [sz_set, ← e9]; exact hlt6
          have HFin := Lib.hid (hfin _ rfl _ rfl)
          clear hown6 hgrow6 hat6 hblk6 hfin
          go_wp2_with fail
          go_meet
          rw [HLn.out, HSv.out]
          exact ⟨some ⟨gg, 0, none⟩, cap, HFin.out⟩
      case rest =>
        obtain ⟨F, fc, hbk, hown, hfb, hbw, hBl⟩ := hcut
        obtain ⟨w6, rfl⟩ : ∃ V, V = wc := ⟨_, rfl⟩
        have hc := NmC.copy_any e.x e.x.d e.B e.m e.c w6 HLe.out.2 (HIs.out.below hbw)
        have k2 : w6.cell? ⟨B5, 2, none⟩ = some (.int .i64 e.x.d.op) := by simp [World.cell?, hbk]
        have k3 : w6.cell? ⟨B5, 3, none⟩ = some (.int .i64 e.x.d.k) := by simp [World.cell?, hbk]
        have k4 : w6.cell? ⟨B5, 4, none⟩ = some (.int .i64 e.x.d.n) := by simp [World.cell?, hbk]
        have k5 : w6.cell? ⟨B5, 5, none⟩ = some (.string e.x.d.s) := by simp [World.cell?, hbk]
        have k6 : w6.cell? ⟨B5, 6, none⟩ = some (.string e.x.d.nm) := by simp [World.cell?, hbk]
        have k7 : w6.cell? ⟨B5, 7, none⟩ = some (.slice e.B e.m e.c) := by simp [World.cell?, hbk]
        have HC := Lib.hid hc
        have HBk := Lib.hid hbk
        have HOwn := Lib.hid hown
        have HFb := Lib.hid hfb
        have HBw := Lib.hid hbw
        clear hc hbk hown hfb hbw k1 f1
        go_wp2_with fail
        refine HC.out.mono ?_; rintro r w7 ⟨d, B, m, c, rfl, hi7, hb7⟩
        obtain rfl : d = e.x.d := ExS.is_d (IsP.is _ _ _ _ hi7)
        have h7 := (hb7.block B5 hBl).trans HBk.out
        have c7 : ∀ o, w7.cell? ⟨B5, o, none⟩ = (#[.string e.nm, .slice F e.fs.length fc, .int .i64 e.x.d.op, .int .i64 e.x.d.k, .int .i64 e.x.d.n, .string e.x.d.s, .string e.x.d.nm, .slice e.B e.m e.c] : Array Value)[o]? := fun o => by simp [World.cell?, h7]
        have f7 : ∀ o, w7.frozen? ⟨B5, o, none⟩ = false := fun o => by simp [World.frozen?, h7]
        obtain ⟨W8, hW8⟩ : ∃ V, ((((((w7.setCell ⟨B5, 2, none⟩ (.int .i64 e.x.d.op)).setCell ⟨B5, 3, none⟩ (.int .i64 e.x.d.k)).setCell ⟨B5, 4, none⟩ (.int .i64 e.x.d.n)).setCell ⟨B5, 5, none⟩ (.string e.x.d.s)).setCell ⟨B5, 6, none⟩ (.string e.x.d.nm)).setCell ⟨B5, 7, none⟩ (.slice B m c)) = V := ⟨_, rfl⟩
        have hg8 : w7.grownBy W8 (some B5) := by rw [← hW8]; exact grown_cells B5 [.int .i64 e.x.d.op, .int .i64 e.x.d.k, .int .i64 e.x.d.n, .string e.x.d.s, .string e.x.d.nm, .slice B m c] 2 w7
        have h8 : W8.heap[B5]? = some (.cells #[.string e.nm, .slice F e.fs.length fc, .int .i64 e.x.d.op, .int .i64 e.x.d.k, .int .i64 e.x.d.n, .string e.x.d.s, .string e.x.d.nm, .slice B m c] 62 (0, 0)) := by rw [← hW8]; exact blk_set (blk_set (blk_set (blk_set (blk_set (blk_set h7 2 _) 3 _) 4 _) 5 _) 6 _) 7 _
        have hb8 : Below wr.heap.size wr W8 := (b_trans HBw.out (hb7.mono (Nat.le_refl _))).grown hg8 (b_trans HBw.out (hb7.mono (Nat.le_refl _))).size (fun g e9 => by injection e9 with e9; omega)
        have hi8 : IsP (fun b => w6.heap.size ≤ b) W8 e.x e.x.d B m := IsP.keep (fun b hb9 hl9 => hg8.block b hl9 (fun e9 => by injection e9 with e9; have h9 : w6.heap.size ≤ b := hb9; omega)) (fun b hb9 _ => hb9) _ _ _ _ hi7
        have hown7 := GenL.own_below HOwn.out hb7
        have hown8 : W8.ownsRow (wr.heap.size + 1) 9 1 (.slice F e.fs.length fc) e.fs.length (strV e.fs) := by
          refine World.ownsRow.kept (row := some B5) hown7 hg8 ?_
          rcases hob : (Value.slice F e.fs.length fc).ownBlock with _ | g
          · exact .inl rfl
          · refine .inr fun e9 => ?_
            injection e9 with e9
            have := (hown7.lt g hob).1
            omega
        have hs76 := hb7.size
        have hs87 := hg8.size
        have hmid : wr.heap.size + 1 ≤ w6.heap.size ∧ w6.heap.size ≤ W8.heap.size := ⟨by omega, by omega⟩
        have hS := HV.out.step (c := c) hlt HEk.out hb8 hown8 HFb.out hi8 hmid
        have hthere : W8.there w.heap.size (k * 8) 8 := fun j hj => by
          obtain ⟨r, hr⟩ := HV.out.own
          have hl : (peC (qs.map PQ.e) ++ r).length = ps.length * 8 := hr.1
          have h9 : k * 8 + j < ps.length * 8 := by omega
          have hwl := HV.out.lt
          have e1 : W8.cell? ⟨w.heap.size, k * 8 + j, none⟩ = (peC (qs.map PQ.e) ++ r)[k * 8 + j]? := (hb8.cell (p := ⟨w.heap.size, k * 8 + j, none⟩) hwl).trans (hr.cellAt _ h9)
          refine ⟨by rw [e1, List.getElem?_eq_getElem (by omega)]; rfl, ?_⟩
          exact (hb8.frozen (p := ⟨w.heap.size, k * 8 + j, none⟩) hwl).trans (hr.frozenAt _)
        have hS' : CI w ps (k + 1) (qs ++ [⟨⟨e.nm, e.fs, F, fc, e.x, B, m, c⟩, wr.heap.size + 1, w6.heap.size, W8.heap.size⟩]) ((((((((W8.setCell ⟨w.heap.size, k * 8, none⟩ (.string e.nm)).setCell ⟨w.heap.size, k * 8 + 1, none⟩ (.slice F e.fs.length fc)).setCell ⟨w.heap.size, k * 8 + 2, none⟩ (.int .i64 e.x.d.op)).setCell ⟨w.heap.size, k * 8 + 3, none⟩ (.int .i64 e.x.d.k)).setCell ⟨w.heap.size, k * 8 + 4, none⟩ (.int .i64 e.x.d.n)).setCell ⟨w.heap.size, k * 8 + 5, none⟩ (.string e.x.d.s)).setCell ⟨w.heap.size, k * 8 + 6, none⟩ (.string e.x.d.nm)).setCell ⟨w.heap.size, k * 8 + 7, none⟩ (.slice B m c)) := hS
        obtain ⟨⟨x0, g0⟩, z0⟩ := (show (∃ v, W8.cell? ⟨w.heap.size, k * 8, none⟩ = some v) ∧ W8.frozen? ⟨w.heap.size, k * 8, none⟩ = false from ⟨Option.isSome_iff_exists.1 (hthere 0 (by decide)).1, (hthere 0 (by decide)).2⟩)
        obtain ⟨⟨x1, g1⟩, z1⟩ := (show (∃ v, W8.cell? ⟨w.heap.size, k * 8 + 1, none⟩ = some v) ∧ W8.frozen? ⟨w.heap.size, k * 8 + 1, none⟩ = false from ⟨Option.isSome_iff_exists.1 (hthere 1 (by decide)).1, (hthere 1 (by decide)).2⟩)
        obtain ⟨⟨x2, g2⟩, z2⟩ := (show (∃ v, W8.cell? ⟨w.heap.size, k * 8 + 2, none⟩ = some v) ∧ W8.frozen? ⟨w.heap.size, k * 8 + 2, none⟩ = false from ⟨Option.isSome_iff_exists.1 (hthere 2 (by decide)).1, (hthere 2 (by decide)).2⟩)
        obtain ⟨⟨x3, g3⟩, z3⟩ := (show (∃ v, W8.cell? ⟨w.heap.size, k * 8 + 3, none⟩ = some v) ∧ W8.frozen? ⟨w.heap.size, k * 8 + 3, none⟩ = false from ⟨Option.isSome_iff_exists.1 (hthere 3 (by decide)).1, (hthere 3 (by decide)).2⟩)
        obtain ⟨⟨x4, g4⟩, z4⟩ := (show (∃ v, W8.cell? ⟨w.heap.size, k * 8 + 4, none⟩ = some v) ∧ W8.frozen? ⟨w.heap.size, k * 8 + 4, none⟩ = false from ⟨Option.isSome_iff_exists.1 (hthere 4 (by decide)).1, (hthere 4 (by decide)).2⟩)
        obtain ⟨⟨x5, g5⟩, z5⟩ := (show (∃ v, W8.cell? ⟨w.heap.size, k * 8 + 5, none⟩ = some v) ∧ W8.frozen? ⟨w.heap.size, k * 8 + 5, none⟩ = false from ⟨Option.isSome_iff_exists.1 (hthere 5 (by decide)).1, (hthere 5 (by decide)).2⟩)
        obtain ⟨⟨x6, g6⟩, z6⟩ := (show (∃ v, W8.cell? ⟨w.heap.size, k * 8 + 6, none⟩ = some v) ∧ W8.frozen? ⟨w.heap.size, k * 8 + 6, none⟩ = false from ⟨Option.isSome_iff_exists.1 (hthere 6 (by decide)).1, (hthere 6 (by decide)).2⟩)
        obtain ⟨⟨x7, g7⟩, z7⟩ := (show (∃ v, W8.cell? ⟨w.heap.size, k * 8 + 7, none⟩ = some v) ∧ W8.frozen? ⟨w.heap.size, k * 8 + 7, none⟩ = false from ⟨Option.isSome_iff_exists.1 (hthere 7 (by decide)).1, (hthere 7 (by decide)).2⟩)
        have HS := Lib.hid hS'
        have HW8 := Lib.hid hW8
        have m0 : W8.cell? ⟨B5, 0, none⟩ = some (.string e.nm) := by simp [World.cell?, h8]
        have m1 : W8.cell? ⟨B5, 1, none⟩ = some (.slice F e.fs.length fc) := by simp [World.cell?, h8]
        have m2 : W8.cell? ⟨B5, 2, none⟩ = some (.int .i64 e.x.d.op) := by simp [World.cell?, h8]
        have m3 : W8.cell? ⟨B5, 3, none⟩ = some (.int .i64 e.x.d.k) := by simp [World.cell?, h8]
        have m4 : W8.cell? ⟨B5, 4, none⟩ = some (.int .i64 e.x.d.n) := by simp [World.cell?, h8]
        have m5 : W8.cell? ⟨B5, 5, none⟩ = some (.string e.x.d.s) := by simp [World.cell?, h8]
        have m6 : W8.cell? ⟨B5, 6, none⟩ = some (.string e.x.d.nm) := by simp [World.cell?, h8]
        have m7 : W8.cell? ⟨B5, 7, none⟩ = some (.slice B m c) := by simp [World.cell?, h8]
        have hl2 : B5 < w7.heap.size := (Array.getElem?_eq_some_iff.1 h7).1
        have ki : (k : Int) < (ps.length : Int) := by omega
        clear hS hS' hthere hW8 h8 hb8 hi8 hown7 hown8 hmid hg8 hi7 hb7 h7 hs76 hs87 k2 k3 k4 k5 k6 k7
        go_upto_region 7 with fail
        rw [HW8.out]
        go_wp2_with fail
        go_roundw
        case rel => exact ⟨k + 1, _, by go_num, HS.out⟩
        case measure => simp [intOf]; omega
    · have hkl : k = ps.length := by omega
      subst hkl
      have HO2 := Lib.hid (show CopyOut ps w (.returned (.slice (some ⟨w.heap.size, 0, none⟩) ps.length ps.length)) wr from ⟨qs, rfl, hV⟩)
      clear hV
      go_wp2_with fail
      go_ret
      exact HO2.out
end Go.Proofs.YtdlfhldboagbeaaGreatDoor.PgC
namespace Go.Proofs.YtdlfhldboagbeaaGreatDoor.PgD
open Go.RowKit
open ValM LexM NumM ExM NmM Kit ExL ExP NmC NmP NmA NmT RawV Within GenL FldP FrmM PgM PgC
set_option linter.unusedVariables false

def Copied (ps : List PE) (w : World) (r : Ending) (w' : World) : Prop :=
  ∃ (L : List PE) (A : Option Addr) (c : Nat), r = .returned (.slice A ps.length c) ∧ L.length = ps.length ∧ (∀ (i : Nat) (h : i < L.length) (h2 : i < ps.length), L[i].nm = ps[i].nm ∧ L[i].fs = ps[i].fs ∧ L[i].x = ps[i].x) ∧ Pgs w' A L ∧ (∀ e ∈ L, SRow w' e.F e.fs ∧ Is w' e.x e.x.d e.B e.m) ∧ Below w.heap.size w w'
theorem copied {ps : List PE} {w w' : World} {r : Ending} (h : CopyOut ps w r w') : Copied ps w r w' := by
  obtain ⟨qs, rfl, h⟩ := h
  obtain ⟨rr, hr⟩ := h.own
  have hlen := h.len
  have hl : (peC (qs.map PQ.e) ++ rr).length = ps.length * 8 := hr.1
  rw [List.length_append, peC_len, List.length_map, hlen] at hl
  obtain rfl : rr = [] := List.eq_nil_of_length_eq_zero (by omega)
  rw [List.append_nil] at hr
  refine ⟨qs.map PQ.e, some ⟨w.heap.size, 0, none⟩, ps.length, rfl, by rw [List.length_map]; exact hlen, fun i hi h2 => ?_, fun i hi => ?_, fun e he => ?_, h.below⟩
  · rw [List.length_map] at hi
    rw [List.getElem_map]
    exact h.val i hi h2
  · refine ⟨_, rfl, ?_⟩
    rw [add_block]
    have hc : ∀ j, j < 8 → w'.cell? ⟨w.heap.size, i * 8 + j, none⟩ = (pgC (qs.map PQ.e)[i])[j]? := fun j hj => (hr.cellAt _ (by rw [List.length_map] at hi; omega)).trans (peC_at _ i j hi hj)
    exact ⟨hc 0 (by decide), hc 1 (by decide), hc 2 (by decide), hc 3 (by decide), hc 4 (by decide), hc 5 (by decide), hc 6 (by decide), hc 7 (by decide)⟩
  · obtain ⟨q, hq, rfl⟩ := List.mem_map.1 he
    have hk := h.ok q hq
    obtain ⟨A', c', e1, hs⟩ := SRow.of_own hk.own
    injection e1 with e1 e2 e3
    subst e1
    exact ⟨hs, IsP.is _ _ _ _ hk.skip⟩
set_option maxHeartbeats 1000000 in
theorem fieldsNil_any (w : World) : Calls Tryz.prog 29 #[.slice none 0 0] w fun r w' => r = .returned (.slice none 0 0) ∧ w' = w := by
  go_enter Tryz.func29, Tryz.ntmps29
  go_wp2_with fail
  go_loopw [3, 5, 8] (fun v _ i wr => v = .slice none 0 0 ∧ i = .int .i64 0 ∧ wr = w) (fun _ _ i _ => 0)
  case atStart => exact ⟨rfl, rfl, rfl⟩
  case round =>
    obtain ⟨rfl, rfl, rfl⟩ := hrel
    go_wp2_with fail
    go_ret
    exact ⟨rfl, rfl⟩
end Go.Proofs.YtdlfhldboagbeaaGreatDoor.PgD
