/- A copy of pages whose first has one name more. -/
import Derived.Test.YthgcmficmodhiaaDoorPgForm
import Derived.Test.YthgcmficmodhiaaDoorPgCopy
import Derived.Deep.AppendLies
import Derived.ArgAppend
namespace Go.Proofs.YthgcmficmodhiaaDoor.PgT
open Go.RowKit
open ValM LexM NumM ExM NmM Kit ExL ExP ExN ExC RawV Within RawL RawN GenL Gen GenT GenV FrmM Frm FldP FldR FldC FrmT TyM Ty TyG NmG FrmO PgM PgC PgF NmA
set_option linter.unusedVariables false

/-- append, and the elder row as it was. -/
theorem run_append_keep {P : Program} (w : World) (t ty : TypeId) (base : Nat) (e : TypeId) (i : TypeInfo) (z : Value) (size bytes : Nat) (ht : P.underlying t = some (.slice e)) (hi : P.info? e = some i) (hz : i.zero = some z)
    (hsize : i.size = size) (hby : i.bytes = bytes) (hzs : z.cells.size = size) (hsz : 0 < size) (v : Value) (n : Nat) (xs : List Value) (hown : w.ownsRow base e size v n xs)
    (ad : Addr) (m c : Nat) (news : List Value) (hl : news.length = m * size) (hnews : ∀ j u, news[j]? = some u → w.cell? (ad.add j) = some u) (h1 : ∀ u ∈ news, u.oneCell' = true)
    (hm : 0 < m) (h63 : n + m ≤ maxLen) (hbytes : (n + m) * bytes ≤ 140737488355328) (hbase : base ≤ w.heap.size) (H : Nat) (hH : w.heap.size = H) :
    ∃ g cap w', (Builtin.append_ #[t, t] ty #[v, .slice (some ad) m c]).run P w = .ok (.slice (some ⟨g, 0, none⟩) (n + m) cap) w' ∧
      w'.ownsRow base e size (.slice (some ⟨g, 0, none⟩) (n + m) cap) (n + m) (xs ++ news) ∧ w.grownBy w' v.ownBlock ∧ (v.ownBlock = some g ∨ g = H) ∧ g < w'.heap.size ∧
      ∀ g0 n0 c0, v = .slice (some ⟨g0, 0, none⟩) n0 c0 → ∀ j, j < n * size → w'.cell? ⟨g0, j, none⟩ = xs[j]? := by
  obtain ⟨g, cap, w', hr, h2, h3, h4, h5⟩ := run_append_lies (P := P) w t ty base e i z size bytes ht hi hz hsize hby hzs hsz v n xs hown ad m c news hl hnews h1 hm h63 hbytes hbase H hH
  refine ⟨g, cap, w', hr, h2, h3, h4, h5, fun g0 n0 c0 hv j hj => ?_⟩
  subst hv
  rcases hown.2 with ⟨hx, _⟩ | ⟨g1, cap1, cur, hv1, hbg, hg, hnc, hcm, hcs, htake⟩
  · cases hx
  · simp only [Value.slice.injEq, Option.some.injEq, Addr.mk.injEq, and_true] at hv1
    obtain ⟨rfl, rfl, rfl⟩ := hv1
    by_cases hroom : n0 + m ≤ c0
    · have hfit : n0 * i.size + news.length ≤ cur.size := by rw [hl, hcs, hsize, ← Nat.add_mul]; exact Nat.mul_le_mul_right _ hroom
      have hr2 := run_append_room (P := P) w t ty e i ht hi g0 n0 c0 cur hg ad m c news (by rw [hsize]; exact hl) hnews h1 hroom hfit
      rw [hr2] at hr
      injection hr with e1 e2
      simp only [Value.slice.injEq, Option.some.injEq, Addr.mk.injEq, and_true, true_and] at e1
      obtain ⟨rfl, _⟩ := e1
      have hx := hown.1
      rw [h2.cellAt j (by rw [Nat.add_mul]; omega), List.getElem?_append_left (by omega)]
    · obtain ⟨v2, w2, hr2, _, hg2⟩ := run_append_arg_grows (P := P) w t ty e i z size bytes ht hi hz hsize hby hzs hsz ⟨g0, 0, none⟩ n0 c0 xs hown.1 (hown.cells rfl) ad m c news hl hnews (by omega) h63 hbytes
      rw [hr2] at hr
      injection hr with _ e2
      subst e2
      exact (World.cell?_of_block (a := ⟨g0, j, none⟩) (hg2.block g0 (hown.lt g0 rfl).2 (by simp))).trans (hown.cellAt j hj)
theorem step_append_keep {P : Program} {w : World} {ops : Array Oper} {o : Oper} {a : Act} {K : Act → World → Prop} {Q : Exit → Act → World → Prop} {E : Prop} (hgd : o.guard = none) (s x : Operand) (t : TypeId)
    (ho : o.op = .call { callee := .builtin .append, args := #[s, x], argTypes := #[t, t] })
    (base : Nat) (e : TypeId) (i : TypeInfo) (z : Value) (size bytes : Nat) (ht : P.underlying t = some (.slice e)) (hi : P.info? e = some i) (hz : i.zero = some z)
    (hsize : i.size = size) (hby : i.bytes = bytes) (hzs : z.cells.size = size) (hsz : 0 < size)
    (v : Value) (n : Nat) (xs : List Value) (hs : a.eval s = v) (hown : w.ownsRow base e size v n xs)
    (ad : Addr) (m c : Nat) (news : List Value) (hx : a.eval x = .slice (some ad) m c) (hl : news.length = m * size) (hnews : ∀ j u, news[j]? = some u → w.cell? (ad.add j) = some u) (h1 : ∀ u ∈ news, u.oneCell' = true)
    (hm : 0 < m) (h63 : n + m ≤ maxLen) (hbytes : (n + m) * bytes ≤ 140737488355328) (hbase : base ≤ w.heap.size) (H : Nat) (hH : w.heap.size = H)
    (h : ∀ g cap w', w'.ownsRow base e size (.slice (some ⟨g, 0, none⟩) (n + m) cap) (n + m) (xs ++ news) → w.grownBy w' v.ownBlock → (v.ownBlock = some g ∨ g = H) → g < w'.heap.size → (∀ g0 n0 c0, v = .slice (some ⟨g0, 0, none⟩) n0 c0 → ∀ j, j < n * size → w'.cell? ⟨g0, j, none⟩ = xs[j]?) → K (a.put o.dst (.slice (some ⟨g, 0, none⟩) (n + m) cap)) w') :
    if Region.wanted o (yielded ops a.tmps) = true then Oper.wp P o a w K Q else E := by
  have hw : Region.wanted o (yielded ops a.tmps) = true := by simp [Region.wanted, hgd]
  rw [if_pos hw]
  obtain ⟨g, cap, w', hr, h2, h3, h4, h5, h6⟩ := run_append_keep (P := P) w t o.type base e i z size bytes ht hi hz hsize hby hzs hsz v n xs hown ad m c news hl hnews h1 hm h63 hbytes hbase H hH
  unfold Oper.wp execOp
  simp only [ho, resolve, invoke, builtin, Sem.run_bind, Sem.run_pure, Result.andThen_ok, List.map_toArray, List.map_cons, List.map_nil, hs, hx, hr]
  exact h g cap w' h2 h3 h4 h5 h6
theorem is_m {w : World} {x : Ex} {d : Nd} {A : Option Addr} {n : Nat} (h : ExL.Is w x d A n) : ∀ {w' : World} {d' : Nd} {A' : Option Addr} {n' : Nat}, ExL.Is w' x d' A' n' → n = n' := by
  intro w' d' A' n' h'
  cases x with
  | mk e l =>
    rw [ExL.Is] at h h'
    rw [h.2.1, h'.2.1]
theorem ci_own {w w1 : World} {ps : List PE} {qs : List PQ} (h : CI w ps ps.length qs w1) : w1.ownsRow w.heap.size 42 8 (.slice (some ⟨w.heap.size, 0, none⟩) ps.length ps.length) ps.length (peC (qs.map PQ.e)) := by
  obtain ⟨r, hr⟩ := h.own
  have hl : (peC (qs.map PQ.e) ++ r).length = ps.length * 8 := hr.1
  rw [List.length_append, peC_len, List.length_map, h.len] at hl
  obtain rfl : r = [] := List.eq_nil_of_length_eq_zero (by omega)
  rw [List.append_nil] at hr
  exact hr
theorem pgs_own {V : World} {base g n c : Nat} {L : List PE} (h : V.ownsRow base 42 8 (.slice (some ⟨g, 0, none⟩) n c) n (peC L)) (hl : L.length = n) : Pgs V (some ⟨g, 0, none⟩) L := fun i hi => by
  refine ⟨_, rfl, ?_⟩
  rw [add_block]
  have hc : ∀ j, j < 8 → V.cell? ⟨g, i * 8 + j, none⟩ = (pgC L[i])[j]? := fun j hj => (h.cellAt _ (by omega)).trans (peC_at L i j hi hj)
  exact ⟨hc 0 (by decide), hc 1 (by decide), hc 2 (by decide), hc 3 (by decide), hc 4 (by decide), hc 5 (by decide), hc 6 (by decide), hc 7 (by decide)⟩
theorem trow_own {V : World} {base : Nat} {A : Option Addr} {c : Nat} {L : List ByteArray} (h : V.ownsRow base 9 1 (.slice A L.length c) L.length (strV L)) : TRow V A L := fun j hj => by
  obtain ⟨A', c', e, hr⟩ := SRow.of_own h
  injection e with e1 e2 e3
  subst e1
  exact TRow.of_srow hr j hj
theorem ok_own {V : World} {B : Nat} {q : PQ} (h : PQok V B q) (h1 : q.e.nm.size ≤ 4) (h2 : ∀ s ∈ q.e.fs, s.size ≤ 4) (h3 : q.e.fs.length ≤ 10) : PgOk V q.e :=
  ⟨by unfold maxLen; omega, trow_own h.own, fun s hs => by have := h2 s hs; unfold maxLen; omega, by unfold maxLen; omega, IsP.is _ _ _ _ h.skip⟩
/-- What the region that appends wants to know. -/
def S24 (G k : Nat) (F0 : Option Addr) (n0 c0 gk nk ck : Nat) (s : ByteArray) (V : World) : Prop :=
  V.cell? ⟨G, 1, none⟩ = some (.slice F0 n0 c0) ∧ V.frozen? ⟨G, 1, none⟩ = false ∧ V.cell? ⟨G, k * 8 + 1, none⟩ = some (.slice (some ⟨gk, 0, none⟩) nk ck) ∧ V.cell? ⟨gk, 0, none⟩ = some (.string s)
theorem twice_cells {w w1 : World} {ps : List PE} {q : PQ} {rest : List PQ} (h : CI w ps ps.length (q :: rest) w1) (k : Nat) (hk : k < (q :: rest).length) (s : ByteArray) (r : List ByteArray) (hs : (q :: rest)[k].e.fs = s :: r) :
    ∃ gk nk ck, 0 < nk ∧ (∀ V, Below w1.heap.size w1 V → S24 w.heap.size k q.e.F q.e.fs.length q.e.fc gk nk ck s V) ∧
      ∀ (V : World) (o : Obj) (w7 : World), Below w1.heap.size w1 V → (V.alloc o).grownBy w7 (Value.slice q.e.F q.e.fs.length q.e.fc).ownBlock → (∀ g0 n0 c0, Value.slice q.e.F q.e.fs.length q.e.fc = .slice (some ⟨g0, 0, none⟩) n0 c0 → ∀ j, j < q.e.fs.length * 1 → w7.cell? ⟨g0, j, none⟩ = (strV q.e.fs)[j]?) → S24 w.heap.size k q.e.F q.e.fs.length q.e.fc gk nk ck s w7 := by
  have ho := ci_own h
  have hlen := h.len
  have hq := h.ok q List.mem_cons_self
  have hkq := h.ok (q :: rest)[k] (List.getElem_mem hk)
  obtain ⟨gk, ck, e, h1, h2, _, _, hc⟩ := GenL.own_form hkq.own (by rw [hs]; exact Nat.succ_pos _)
  injection e with eF _ eC
  have ga : ∀ j, j < ps.length * 8 → w1.cell? ⟨w.heap.size, j, none⟩ = (peC ((q :: rest).map PQ.e))[j]? := fun j hj => ho.cellAt j hj
  have hk0 : 0 < (q :: rest).length := Nat.succ_pos _
  have c1 : w1.cell? ⟨w.heap.size, 1, none⟩ = some (.slice q.e.F q.e.fs.length q.e.fc) := by
    have := (ga (0 * 8 + 1) (by omega)).trans (peC_at ((q :: rest).map PQ.e) 0 1 (by rw [List.length_map]; exact hk0) (by decide))
    exact this
  have ck1 : w1.cell? ⟨w.heap.size, k * 8 + 1, none⟩ = some (.slice (some ⟨gk, 0, none⟩) (q :: rest)[k].e.fs.length ck) := by
    have := (ga (k * 8 + 1) (by omega)).trans (peC_at ((q :: rest).map PQ.e) k 1 (by rw [List.length_map]; exact hk) (by decide))
    rw [this, List.getElem_map]
    show some (Value.slice _ _ _) = _
    rw [eF, eC]
  have cs : w1.cell? ⟨gk, 0, none⟩ = some (.string s) := by
    have := hc 0 (by rw [hs]; simp)
    rw [this, hs]; rfl
  have hB : w.heap.size < w1.heap.size := h.lt
  have hz : w1.frozen? ⟨w.heap.size, 1, none⟩ = false := ho.frozenAt 1
  have hob : ∀ g, (Value.slice q.e.F q.e.fs.length q.e.fc).ownBlock = some g → q.lo ≤ g ∧ g < q.mid := fun g hg => ⟨(hq.own.lt g hg).1, hq.blk g hg⟩
  have hord := hq.ord
  have hGne : (Value.slice q.e.F q.e.fs.length q.e.fc).ownBlock ≠ some w.heap.size := fun e => by have := hob _ e; omega
  refine ⟨gk, (q :: rest)[k].e.fs.length, ck, by rw [hs]; simp, fun V hV => ⟨(hV.cell (p := ⟨w.heap.size, 1, none⟩) hB).trans c1, (hV.frozen (p := ⟨w.heap.size, 1, none⟩) hB).trans hz, (hV.cell (p := ⟨w.heap.size, k * 8 + 1, none⟩) hB).trans ck1, (hV.cell (p := ⟨gk, 0, none⟩) h2).trans cs⟩, fun V o w7 hV hg hrow => ?_⟩
  have hbk : ∀ b, b < w1.heap.size → (Value.slice q.e.F q.e.fs.length q.e.fc).ownBlock ≠ some b → w7.heap[b]? = w1.heap[b]? := fun b hb hne =>
    (app_keep hg (by have := hV.size; omega) (fun e => hne e.symm)).trans (hV.block b hb)
  have hG := hbk _ hB hGne
  refine ⟨(World.cell?_of_block hG).trans c1, ?_, (World.cell?_of_block hG).trans ck1, ?_⟩
  · have : w7.frozen? ⟨w.heap.size, 1, none⟩ = w1.frozen? ⟨w.heap.size, 1, none⟩ := by unfold World.frozen?; rw [hG]
    rw [this]; exact hz
  · by_cases hk00 : k = 0
    · subst hk00
      have eF : q.e.F = some ⟨gk, 0, none⟩ := eF
      have hs : q.e.fs = s :: r := hs
      have := hrow gk _ _ (by rw [eF]) 0 (by rw [hs]; simp)
      rw [this, hs]; rfl
    · refine (World.cell?_of_block (hbk gk h2 fun e => ?_)).trans cs
      have h3 := hob _ e
      have h4 := List.pairwise_iff_getElem.1 h.seq 0 k hk0 hk (by omega)
      have h4 : q.hi ≤ (q :: rest)[k].lo := h4
      omega
/-- The pages behind it. -/
theorem twice_at {w w1 V w7 : World} {ps : List PE} {q : PQ} {rest : List PQ} {s : ByteArray} {gg cap : Nat} {o : Obj} {fs : List GenL.Fd} (h : CI w ps ps.length (q :: rest) w1) (hs : s.size ≤ 4) (hsz : ∀ (k : Nat) (h : k < ps.length), (ps[k].nm.size ≤ 4 ∧ ∀ s ∈ ps[k].fs, s.size ≤ 4) ∧ ps[k].fs.length ≤ 10 ∧ ∃ (W : World) (A : Option Addr), ExL.Is W ps[k].x ps[k].x.d A ps[k].m)
    (hb : Below w1.heap.size w1 V) (hg : (V.alloc o).grownBy w7 (Value.slice q.e.F q.e.fs.length q.e.fc).ownBlock) (hown : w7.ownsRow q.lo 9 1 (.slice (some ⟨gg, 0, none⟩) (q.e.fs.length + 1) cap) (q.e.fs.length + 1) (strV q.e.fs ++ [.string s])) (hgood : PgF.Good fs ps) :
    ∃ L : List PE, L.length = ps.length ∧ Pgs (w7.setCell ⟨w.heap.size, 1, none⟩ (.slice (some ⟨gg, 0, none⟩) (q.e.fs.length + 1) cap)) (some ⟨w.heap.size, 0, none⟩) L ∧ PgsOk (w7.setCell ⟨w.heap.size, 1, none⟩ (.slice (some ⟨gg, 0, none⟩) (q.e.fs.length + 1) cap)) L ∧ PgF.Good fs L ∧
      (∀ (h : 0 < ps.length) (h' : 0 < L.length), L[0].fs = ps[0].fs ++ [s]) ∧ (∀ (i : Nat) (h : i < ps.length) (h' : i < L.length), 0 < i → L[i].fs = ps[i].fs) ∧ (∀ e ∈ L, e.fs.length ≤ 1048576) ∧
      Below w.heap.size w (w7.setCell ⟨w.heap.size, 1, none⟩ (.slice (some ⟨gg, 0, none⟩) (q.e.fs.length + 1) cap)) := by
  have ho := ci_own h
  have hlen : rest.length + 1 = ps.length := h.len
  have hq := h.ok q List.mem_cons_self
  have hB : w.heap.size < w1.heap.size := h.lt
  have hob : ∀ g, (Value.slice q.e.F q.e.fs.length q.e.fc).ownBlock = some g → q.lo ≤ g ∧ g < q.mid := fun g hg => ⟨(hq.own.lt g hg).1, hq.blk g hg⟩
  have hord := hq.ord
  have hGne : (Value.slice q.e.F q.e.fs.length q.e.fc).ownBlock ≠ some w.heap.size := fun e => by have := hob _ e; omega
  obtain ⟨W, hW⟩ : ∃ W, w7.setCell ⟨w.heap.size, 1, none⟩ (.slice (some ⟨gg, 0, none⟩) (q.e.fs.length + 1) cap) = W := ⟨_, rfl⟩
  have hVs := hb.size
  have hgs := hg.size
  have hgs : V.heap.size + 1 ≤ w7.heap.size := by simpa using hgs
  have hbW : ∀ b, b < w1.heap.size → (Value.slice q.e.F q.e.fs.length q.e.fc).ownBlock ≠ some b → b ≠ w.heap.size → W.heap[b]? = w1.heap[b]? := fun b hb1 hne hx => by
    rw [← hW]
    exact (Below.heap_setCell w7 ⟨w.heap.size, 1, none⟩ _ b hx).trans ((app_keep hg (by omega) (fun e => hne e.symm)).trans (hb.block b hb1))
  have hszW : W.heap.size = w7.heap.size := by rw [← hW]; exact sz_set _ _ _
  -- the row
  have ho7 : w7.ownsRow w.heap.size 42 8 (.slice (some ⟨w.heap.size, 0, none⟩) ps.length ps.length) ps.length (peC ((q :: rest).map PQ.e)) :=
    World.ownsRow.kept (GenL.own_below (GenL.own_below ho hb) (b_new V o)) hg (.inr (fun e => hGne e.symm))
  have hoW := (ho7.stored 1 (.slice (some ⟨gg, 0, none⟩) (q.e.fs.length + 1) cap)).1
  rw [hW] at hoW
  have hset : (peC ((q :: rest).map PQ.e)).set 1 (.slice (some ⟨gg, 0, none⟩) (q.e.fs.length + 1) cap) = peC (⟨q.e.nm, q.e.fs ++ [s], some ⟨gg, 0, none⟩, cap, q.e.x, q.e.B, q.e.m, q.e.c⟩ :: rest.map PQ.e) := by
    show (pgC q.e ++ peC (rest.map PQ.e)).set 1 _ = pgC ⟨q.e.nm, q.e.fs ++ [s], some ⟨gg, 0, none⟩, cap, q.e.x, q.e.B, q.e.m, q.e.c⟩ ++ peC (rest.map PQ.e)
    simp [pgC]
  rw [hset] at hoW
  -- what the others hold
  have hkeep : ∀ q' ∈ rest, PQok W w.heap.size q' := fun q' hq' => by
    have h1 := h.ok q' (List.mem_cons_of_mem _ hq')
    have h2 : q.hi ≤ q'.lo := List.rel_of_pairwise_cons h.seq hq'
    have h3 := h1.ord
    have a1 : PQok V w.heap.size q' := h1.keep (row := none) ⟨hb.os, hb.tape, hb.output, hb.size, fun k hk _ => hb.block k hk⟩ (fun g e => by cases e)
    have a2 : PQok (V.alloc o) w.heap.size q' := a1.keep (row := none) ⟨(b_new V o).os, (b_new V o).tape, (b_new V o).output, (b_new V o).size, fun k hk _ => (b_new V o).block k hk⟩ (fun g e => by cases e)
    have a3 : PQok w7 w.heap.size q' := a2.keep hg (fun g e => by have := hob g e; omega)
    rw [← hW]
    exact a3.keep (row := some w.heap.size) ⟨rfl, rfl, rfl, by rw [sz_set]; exact Nat.le_refl _, fun k _ hk => Below.heap_setCell _ _ _ k (fun e => hk (by rw [e]))⟩ (fun g e => by injection e with e; omega)
  have hvals := h.val
  have hskip0 : ExL.Is W q.e.x q.e.x.d q.e.B q.e.m := by
    refine IsP.is _ _ _ _ (IsP.keep (Q := fun _ => True) (fun b hb9 hl9 => hbW b hl9 (fun e => ?_) ?_) (fun b _ _ => trivial) _ _ _ _ hq.skip)
    · have := hob _ e; omega
    · omega
  have hrow0 : TRow W (some ⟨gg, 0, none⟩) (q.e.fs ++ [s]) := by
    have hne : gg ≠ w.heap.size := by
      have := (hown.lt gg rfl).1; omega
    have h1 : w7.ownsRow q.lo 9 1 (.slice (some ⟨gg, 0, none⟩) (q.e.fs ++ [s]).length cap) (q.e.fs ++ [s]).length (strV (q.e.fs ++ [s])) := by
      rw [strV_append, List.length_append]; exact hown
    rw [← hW]
    refine trow_own (World.ownsRow.kept (row := some w.heap.size) h1 ⟨rfl, rfl, rfl, by rw [sz_set]; exact Nat.le_refl _, fun k _ hk => Below.heap_setCell _ _ _ k (fun e => hk (by rw [e]))⟩ (.inr ?_))
    intro e; exact hne (by injection e)
  have v0 := hvals 0 (Nat.succ_pos _) (by omega)
  obtain ⟨n0, f0, x0⟩ : q.e.nm = (ps[0]'(by omega)).nm ∧ q.e.fs = (ps[0]'(by omega)).fs ∧ q.e.x = (ps[0]'(by omega)).x := v0
  have vr : ∀ (i : Nat) (hi : i < rest.length), rest[i].e.nm = (ps[i + 1]'(by omega)).nm ∧ rest[i].e.fs = (ps[i + 1]'(by omega)).fs ∧ rest[i].e.x = (ps[i + 1]'(by omega)).x := fun i hi => hvals (i + 1) (by simpa using hi) (by omega)
  have hp0 : 0 < ps.length := by omega
  have s0 := hsz 0 hp0
  rw [hW]
  refine ⟨⟨q.e.nm, q.e.fs ++ [s], some ⟨gg, 0, none⟩, cap, q.e.x, q.e.B, q.e.m, q.e.c⟩ :: rest.map PQ.e, by simp; omega, pgs_own hoW (by simp; omega), fun e he => ?_, ?_, fun _ _ => ?_, fun i hi hi' h0 => ?_, fun e he => ?_, ?_⟩
  · rcases List.mem_cons.1 he with rfl | he
    · refine ⟨by show q.e.nm.size ≤ _; rw [n0]; have := s0.1.1; unfold maxLen; omega, hrow0, fun t ht => ?_, ?_, hskip0⟩
      · have ht : t ∈ q.e.fs ++ [s] := ht
        rcases List.mem_append.1 ht with ht | ht
        · rw [f0] at ht; have := s0.1.2 t ht; unfold maxLen; omega
        · simp at ht; subst ht; unfold maxLen; omega
      · show (q.e.fs ++ [s]).length ≤ _
        rw [f0, List.length_append]; have := s0.2.1; unfold maxLen; simp; omega
    · obtain ⟨q', hq', rfl⟩ := List.mem_map.1 he
      obtain ⟨i, hi, rfl⟩ := List.getElem_of_mem hq'
      obtain ⟨e1, e2, e3⟩ := vr i hi
      have hi1 := hsz (i + 1) (by omega)
      exact ok_own (hkeep _ (List.getElem_mem hi)) (by rw [e1]; exact hi1.1.1) (by rw [e2]; exact hi1.1.2) (by rw [e2]; exact hi1.2.1)
  · have hl : (⟨q.e.nm, q.e.fs ++ [s], some ⟨gg, 0, none⟩, cap, q.e.x, q.e.B, q.e.m, q.e.c⟩ :: rest.map PQ.e : List PE).length = ps.length := by simp; omega
    have nm : ∀ (k : Nat) (hk : k < (⟨q.e.nm, q.e.fs ++ [s], some ⟨gg, 0, none⟩, cap, q.e.x, q.e.B, q.e.m, q.e.c⟩ :: rest.map PQ.e : List PE).length), (⟨q.e.nm, q.e.fs ++ [s], some ⟨gg, 0, none⟩, cap, q.e.x, q.e.B, q.e.m, q.e.c⟩ :: rest.map PQ.e : List PE)[k].nm = (ps[k]'(by omega)).nm ∧ (⟨q.e.nm, q.e.fs ++ [s], some ⟨gg, 0, none⟩, cap, q.e.x, q.e.B, q.e.m, q.e.c⟩ :: rest.map PQ.e : List PE)[k].x = (ps[k]'(by omega)).x ∧ ∃ (W : World) (A : Option Addr), ExL.Is W (ps[k]'(by omega)).x (ps[k]'(by omega)).x.d A (⟨q.e.nm, q.e.fs ++ [s], some ⟨gg, 0, none⟩, cap, q.e.x, q.e.B, q.e.m, q.e.c⟩ :: rest.map PQ.e : List PE)[k].m := fun k hk => by
      cases k with
      | zero => exact ⟨n0, x0, W, q.e.B, by have := hskip0; rw [x0] at this; exact this⟩
      | succ i =>
        have hi : i < rest.length := by simpa using hk
        obtain ⟨e1, e2, e3⟩ := vr i hi
        simp only [List.getElem_cons_succ, List.getElem_map]
        refine ⟨e1, e3, W, rest[i].e.B, ?_⟩
        have := IsP.is _ _ _ _ (hkeep _ (List.getElem_mem hi)).skip
        rw [e3] at this; exact this
    refine ⟨by rw [hl]; exact hgood.few, fun k hk => ?_, fun j k hj hk e => ?_, fun k hk => ?_⟩
    · rw [(nm k hk).1]; exact hgood.nm k _
    · rw [(nm j hj).1, (nm k hk).1] at e; exact hgood.inj j k _ _ e
    · obtain ⟨_, e2, Wm, Am, his⟩ := nm k hk
      obtain ⟨_, _, W2, A2, his2⟩ := hsz k (by omega)
      have hm := is_m his his2
      rw [e2, hm]
      exact hgood.sk k _
  · show q.e.fs ++ [s] = _
    rw [f0]
  · obtain ⟨j, rfl⟩ : ∃ j, i = j + 1 := ⟨i - 1, by omega⟩
    have hj : j < rest.length := by simpa using hi'
    simp only [List.getElem_cons_succ, List.getElem_map]
    exact (vr j hj).2.1
  · rcases List.mem_cons.1 he with rfl | he
    · show (q.e.fs ++ [s]).length ≤ _
      rw [f0, List.length_append]; have := s0.2.1; simp; omega
    · obtain ⟨q', hq', rfl⟩ := List.mem_map.1 he
      obtain ⟨i, hi, rfl⟩ := List.getElem_of_mem hq'
      rw [(vr i hi).2.1]
      have := (hsz (i + 1) (by omega)).2.1
      omega
  · have hbv : Below w.heap.size w V := h.below.trans (hb.mono h.below.size)
    rw [← hW]
    refine ((b_more hbv o).grown hg (by have := hbv.size; simp; omega) (fun g e => ?_)).setCell (Nat.le_refl _) _
    have := hob g e
    omega
end Go.Proofs.YthgcmficmodhiaaDoor.PgT
