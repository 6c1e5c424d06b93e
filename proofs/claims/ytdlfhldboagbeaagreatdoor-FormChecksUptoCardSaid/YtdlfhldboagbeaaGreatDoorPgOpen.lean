/- An argument that is a slice of pages. An argument that is a form. -/
import Derived.Test.YtdlfhldboagbeaaGreatDoorFldOpen
import Derived.Test.YtdlfhldboagbeaaGreatDoorPg
namespace Go.Proofs.YtdlfhldboagbeaaGreatDoor.PgO
open Go.ChangeShapes Go.WideShapes Go.ChangeAt Go.RowKit Go.Deep
open ExM ExL ExO GenL FrmM PgM
set_option linter.unusedVariables false

theorem bulk_len {H : Type} (l : List (DataW H)) : l.length ≤ Rows.uptoBulkAll l := by
  induction l with
  | nil => simp
  | cons x l ih => simp only [Rows.uptoBulkAll, List.length_cons]; have := bulk_one x; omega
theorem bulk_at {H : Type} : ∀ (l : List (DataW H)) (i : Nat) (h : i < l.length), Rows.uptoBulk l[i] ≤ Rows.uptoBulkAll l
  | [], i, h => absurd h (by simp)
  | x :: l, 0, _ => by simp only [Rows.uptoBulkAll]; simp
  | x :: l, i + 1, h => by
    have := bulk_at l i (by simpa using h)
    simp only [Rows.uptoBulkAll, List.getElem_cons_succ]; omega
set_option maxRecDepth 100000 in
/-- A slice of texts. -/
theorem row_txt {H : Type} {enc : TypeId × Value → H} {W : World} {fuel : Nat} {v : Value} {y : DataW H × List MemPlace}
    (h : DataW.trod enc Tryz.prog W 0 (fun _ => true) true fuel 34 [v] = some y) : ∃ (A : Option Addr) (L : List ByteArray) (c : Nat), v = .slice A L.length c ∧ TRow W A L ∧ (∀ s ∈ L, s.size ≤ maxLen) ∧ (L.length ≤ c ∧ c ≤ maxLen) ∧ L.length ≤ Rows.uptoBulk y.1 := by
  have hC : Tryz.prog.cellsOf 9 = 1 := by kernel_rfl
  rcases open_slice1 Tryz.underlying34 hC h with ⟨e, _⟩ | ⟨a, len, cap, m, f, V, D, Pl, e, _, hl, hc, hm, hx, hel⟩
  · injection e with e _
    subst e
    exact ⟨none, [], 0, rfl, fun j hj => absurd hj (by simp), fun s hs => by simp at hs, ⟨Nat.zero_le _, Nat.zero_le _⟩, Nat.zero_le _⟩
  · injection e with e _
    subst e
    have hget : ∀ i, i < len → ∃ s : ByteArray, W.cell? (a.add i) = some (.string s) ∧ s.size ≤ maxLen := fun i hi => by
      obtain ⟨h1, h2⟩ := hel i (by rw [hm]; split <;> omega)
      obtain ⟨s, q, _, w0⟩ := DataW.trod_string Tryz.underlying9 h2
      injection q with q _
      exact ⟨s, by rw [h1, q], w0⟩
    obtain ⟨F, hF⟩ := Classical.axiomOfChoice (r := fun (i : Nat) (s : ByteArray) => i < len → W.cell? (a.add i) = some (.string s) ∧ s.size ≤ maxLen) (fun i => by
      by_cases hi : i < len
      · obtain ⟨f, hf⟩ := hget i hi; exact ⟨f, fun _ => hf⟩
      · exact ⟨⟨#[]⟩, fun g => absurd g hi⟩)
    have hlen : ((List.range len).map F).length = len := by simp
    refine ⟨some a, (List.range len).map F, cap, by rw [hlen], fun j hj => ⟨a, rfl, ?_⟩, fun s hs => ?_, by rw [hlen]; exact ⟨hl, hc⟩, ?_⟩
    · simp at hj ⊢; exact (hF j hj).1
    · obtain ⟨i, hi, rfl⟩ := List.mem_map.1 hs
      exact (hF i (List.mem_range.1 hi)).2
    · rw [hlen]
      subst hx
      have := bulk_len ((List.range len).map D)
      rw [List.length_map, List.length_range] at this
      simp only [Rows.uptoBulk]; omega
set_option maxRecDepth 100000 in
theorem row_pg {H : Type} {enc : TypeId × Value → H} {W : World} {fuel : Nat} {cs : List Value} {y : DataW H × List MemPlace}
    (h : DataW.trod enc Tryz.prog W 0 (fun _ => true) true fuel 62 cs = some y) : ∃ (e : PE), cs = pgC e ∧ PgOk W e ∧ (e.fs.length ≤ e.fc ∧ e.fc ≤ maxLen) ∧ e.x.nodes ≤ Rows.uptoBulk y.1 ∧ e.fs.length ≤ Rows.uptoBulk y.1 := by
  obtain ⟨ys, f1, hfu, hx, hl, hlen, hf⟩ := DataW.trod_struct Tryz.underlying62 h
  have hC : Tryz.prog.cellsOf 62 = 8 := by kernel_rfl
  rw [hC] at hl
  obtain ⟨d0, d1, e0, e1, e2, e3, e4, e5, rfl⟩ : ∃ a b c d e f g h, cs = [a, b, c, d, e, f, g, h] := by
    match cs, hl with
    | [a, b, c, d, e, f, g, h], _ => exact ⟨a, b, c, d, e, f, g, h, rfl⟩
  obtain ⟨y0, y1, y2, rfl⟩ := len3 (show ys.length = 3 from hlen)
  have g0 := hf 0 _ rfl
  have g1 := hf 1 _ rfl
  have g2 := hf 2 _ rfl
  have c0 : Tryz.prog.cellsOf 9 = 1 := by kernel_rfl
  have c1 : Tryz.prog.cellsOf 34 = 1 := by kernel_rfl
  have c3 : Tryz.prog.cellsOf 48 = 6 := by kernel_rfl
  simp [c0] at g0
  simp [c1] at g1
  simp [c3] at g2
  obtain ⟨nm, q0, _, w0⟩ := DataW.trod_string Tryz.underlying9 g0
  obtain ⟨F, L, fc, q1, hrow, htx, hcap, hbl⟩ := row_txt g1
  obtain ⟨x, d, A, n, c, q3, hi, hb⟩ := row_ex _ g2
  simp only [List.cons.injEq, and_true] at q0
  unfold exC at q3
  simp only [List.cons.injEq, and_true] at q3
  obtain ⟨rfl, rfl, rfl, rfl, rfl, rfl⟩ := q3
  obtain rfl : d = x.d := ExS.is_d hi
  subst q0 q1
  refine ⟨⟨nm, L, F, fc, x, A, n, c⟩, rfl, ⟨w0, hrow, htx, by show L.length ≤ _; omega, hi⟩, hcap, ?_, ?_⟩
  all_goals
    subst hx
    simp only [List.map_cons, List.map_nil, Rows.uptoBulk, Rows.uptoBulkAll]
    omega
set_option maxRecDepth 100000 in
/-- The same of any value that is read so. -/
theorem row_pgs {H : Type} {enc : TypeId × Value → H} {W : World} {fuel : Nat} {v : Value} {d : DataW H} {p : List MemPlace}
    (hf : DataW.trod enc Tryz.prog W 0 (fun _ => true) true fuel 23 [v] = some (d, p)) :
    ∃ (A : Option Addr) (ps : List PE) (c : Nat), v = .slice A ps.length c ∧ Pgs W A ps ∧ (ps.length ≤ Rows.uptoBulk d ∧ ps.length ≤ maxLen ∧ ps.length ≤ c ∧ c ≤ maxLen) ∧ (∀ e ∈ ps, PgOk W e ∧ (e.fs.length ≤ e.fc ∧ e.fc ≤ maxLen) ∧ e.x.nodes ≤ Rows.uptoBulk d ∧ e.fs.length ≤ Rows.uptoBulk d) := by
  have hC : Tryz.prog.cellsOf 62 = 8 := by kernel_rfl
  rcases open_slice Tryz.underlying23 hf with ⟨e, _⟩ | ⟨a, n, c, m, f, D, Pl, e, _, hl, hc, hm, hx, hel⟩
  · injection e with e _
    subst e
    exact ⟨none, [], 0, rfl, fun i hi => absurd hi (by simp), ⟨Nat.zero_le _, Nat.zero_le _, Nat.zero_le _, Nat.zero_le _⟩, fun i hi => by simp at hi⟩
  · injection e with e _
    subst e
    have hx1 : d = .slice ((List.range n).map D) ((List.range (m - n)).map fun j => D (n + j)) := by injection hx
    have hlen : (List.range n).length = n := List.length_range
    have hb1 : Rows.uptoBulkAll ((List.range n).map D) ≤ Rows.uptoBulk d := by
      rw [hx1]; simp only [Rows.uptoBulk]; omega
    have hget : ∀ i, i < n → ∃ (e : PE), PgAt W (a.add (i * 8)) e ∧ (PgOk W e ∧ (e.fs.length ≤ e.fc ∧ e.fc ≤ maxLen) ∧ e.x.nodes ≤ Rows.uptoBulk d ∧ e.fs.length ≤ Rows.uptoBulk d) := fun i hi => by
      have hmi : i < m := by rw [hm]; split <;> omega
      obtain ⟨cs', hcs, htr⟩ := hel i hmi
      rw [hC] at hcs
      obtain ⟨_, hcl, hat⟩ := World.cells?_some hcs
      obtain ⟨e, rfl, hok, hcp, hb, hb2⟩ := row_pg htr
      unfold pgC at hat
      have hk : ∀ j, j ≠ 0 → (a.add (i * 8)).add j = ⟨(a.add (i * 8)).block, (a.add (i * 8)).off + j, none⟩ := fun j hj => ExO.addAdd _ j hj
      have h0 := hat 0 (by decide); have h1 := hat 1 (by decide); have h2 := hat 2 (by decide); have h3 := hat 3 (by decide); have h4 := hat 4 (by decide); have h5 := hat 5 (by decide); have h6 := hat 6 (by decide); have h7 := hat 7 (by decide)
      rw [hk _ (by decide)] at h1 h2 h3 h4 h5 h6 h7
      rw [show ∀ p : Addr, p.add 0 = p from fun p => by unfold Addr.add; rw [if_pos rfl]] at h0
      have hbi := bulk_at ((List.range n).map D) i (by simpa using hi)
      simp only [List.getElem_map, List.getElem_range] at hbi
      have hb' : e.x.nodes ≤ Rows.uptoBulk (D i) := hb
      have hb2' : e.fs.length ≤ Rows.uptoBulk (D i) := hb2
      exact ⟨e, ⟨h0, h1, h2, h3, h4, h5, h6, h7⟩, hok, hcp, by omega, by omega⟩
    obtain ⟨F, hF⟩ := Classical.axiomOfChoice (r := fun (i : Nat) (e : PE) => i < n → PgAt W (a.add (i * 8)) e ∧ (PgOk W e ∧ (e.fs.length ≤ e.fc ∧ e.fc ≤ maxLen) ∧ e.x.nodes ≤ Rows.uptoBulk d ∧ e.fs.length ≤ Rows.uptoBulk d)) (fun i => by
      by_cases hi : i < n
      · obtain ⟨f, hf⟩ := hget i hi; exact ⟨f, fun _ => hf⟩
      · exact ⟨⟨⟨#[]⟩, [], none, 0, .mk ⟨0, 0, 0, ⟨#[]⟩, ⟨#[]⟩⟩ [], none, 0, 0⟩, fun g => absurd g hi⟩)
    refine ⟨some a, (List.range n).map F, c, by rw [List.length_map, hlen], fun i hi => ⟨a, rfl, ?_⟩, ?_, fun e he => ?_⟩
    · simp at hi ⊢; exact (hF i hi).1
    · rw [List.length_map, hlen]
      have := bulk_len ((List.range n).map D)
      rw [List.length_map, hlen] at this
      exact ⟨by omega, by omega, hl, hc⟩
    · obtain ⟨i, hi, rfl⟩ := List.mem_map.1 he
      exact (hF i (List.mem_range.1 hi)).2
set_option maxRecDepth 100000 in
/-- A parameter that is a slice of pages: the pages as they lie, and what they hold. -/
theorem open_pgs {H : Type} {enc : TypeId × Value → H} {W : World} {base : Nat} {v : Value} {d : DataW H} {p : List MemPlace}
    (hv : Value.okWide Tryz.prog W .any base 23 v) (h : DataW.Trod enc Tryz.prog W 0 (fun _ => true) true 23 v d p) :
    ∃ (A : Option Addr) (ps : List PE) (c : Nat), v = .slice A ps.length c ∧ Pgs W A ps ∧ (ps.length ≤ Rows.uptoBulk d ∧ ps.length ≤ maxLen ∧ ps.length ≤ c ∧ c ≤ maxLen) ∧ (∀ e ∈ ps, PgOk W e ∧ (e.fs.length ≤ e.fc ∧ e.fc ≤ maxLen) ∧ e.x.nodes ≤ Rows.uptoBulk d ∧ e.fs.length ≤ Rows.uptoBulk d) := by
  obtain ⟨A, n, c, rfl⟩ := okWide_slice Tryz.underlying23 hv
  obtain ⟨fuel, hf⟩ := h
  exact row_pgs hf
end Go.Proofs.YtdlfhldboagbeaaGreatDoor.PgO
namespace Go.Proofs.YtdlfhldboagbeaaGreatDoor.FrmO
open Go.ChangeShapes Go.WideShapes Go.ChangeAt Go.RowKit Go.Deep
open ExM ExL ExO GenL FrmM PgM
set_option linter.unusedVariables false

set_option maxRecDepth 100000 in
/-- A parameter that is a form: its fields and its pages. -/
theorem open_frm {H : Type} {enc : TypeId × Value → H} {W : World} {base : Nat} {v : Value} {d : DataW H} {p : List MemPlace}
    (hv : Value.okWide Tryz.prog W .any base 25 v) (h : DataW.Trod enc Tryz.prog W 0 (fun _ => true) true 25 v d p) :
    ∃ (A : Option Addr) (fs : List GenL.Fd) (c : Nat) (PA : Option Addr) (ps : List PE) (pc : Nat), v = .agg #[.slice A fs.length c, .slice PA ps.length pc] ∧
      (Flds W A fs ∧ (fs.length ≤ Rows.uptoBulk d ∧ fs.length ≤ maxLen ∧ fs.length ≤ c ∧ c ≤ maxLen) ∧ (∀ (i : Nat) (h : i < fs.length), fs[i].nm.size ≤ maxLen ∧ ∃ x, Is W x fs[i].d fs[i].A fs[i].n ∧ x.nodes ≤ Rows.uptoBulk d)) ∧
      (Pgs W PA ps ∧ (ps.length ≤ Rows.uptoBulk d ∧ ps.length ≤ maxLen ∧ ps.length ≤ pc ∧ pc ≤ maxLen) ∧ (∀ e ∈ ps, PgOk W e ∧ (e.fs.length ≤ e.fc ∧ e.fc ≤ maxLen) ∧ e.x.nodes ≤ Rows.uptoBulk d ∧ e.fs.length ≤ Rows.uptoBulk d)) := by
  obtain ⟨cs, rfl, hsz⟩ := okWide_struct Tryz.underlying25 hv
  obtain ⟨fuel, hf0⟩ := h
  obtain ⟨ys, f1, hfu, hx, hl, hlen, hf⟩ := DataW.trod_struct Tryz.underlying25 hf0
  have hC : Tryz.prog.cellsOf 25 = 2 := by kernel_rfl
  rw [hC] at hl
  obtain ⟨d0, d1, e⟩ : ∃ a b, cs.toList = [a, b] := by
    match cs.toList, hl with
    | [a, b], _ => exact ⟨a, b, rfl⟩
  obtain rfl : cs = #[d0, d1] := by rw [← Array.toArray_toList (xs := cs), e]
  obtain ⟨y0, y1, rfl⟩ : ∃ a b, ys = [a, b] := by
    match ys, (show ys.length = 2 from hlen) with
    | [a, b], _ => exact ⟨a, b, rfl⟩
  have g0 := hf 0 _ rfl
  have g1 := hf 1 _ rfl
  have c0 : Tryz.prog.cellsOf 22 = 1 := by kernel_rfl
  have c1 : Tryz.prog.cellsOf 23 = 1 := by kernel_rfl
  simp [c0] at g0
  simp [c1] at g1
  obtain ⟨A, fs, c, rfl, p1, p2, p3⟩ := FldO.row_flds g0
  obtain ⟨PA, ps, pc, rfl, q1, q2, q3⟩ := PgO.row_pgs g1
  have hb : Rows.uptoBulk y0.1 ≤ Rows.uptoBulk d ∧ Rows.uptoBulk y1.1 ≤ Rows.uptoBulk d := by
    have hx1 : d = .agg [y0.1, y1.1] := by injection hx
    rw [hx1]
    simp only [Rows.uptoBulk, Rows.uptoBulkAll]
    omega
  refine ⟨A, fs, c, PA, ps, pc, rfl, ⟨p1, ⟨by omega, p2.2⟩, fun i hi => ⟨(p3 i hi).1, (p3 i hi).2.imp fun x hh => ⟨hh.1, by omega⟩⟩⟩, ⟨q1, ⟨by omega, q2.2⟩, fun e he => ⟨(q3 e he).1, (q3 e he).2.1, by have := (q3 e he).2.2.1; omega, by have := (q3 e he).2.2.2; omega⟩⟩⟩
end Go.Proofs.YtdlfhldboagbeaaGreatDoor.FrmO
