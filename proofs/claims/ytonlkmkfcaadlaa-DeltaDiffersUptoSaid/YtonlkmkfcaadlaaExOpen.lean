/- An argument that is a formula: what reads as a datum lies in memory as a tree. -/
import Derived.Test.YtonlkmkfcaadlaaRows
import Derived.Test.YtonlkmkfcaadlaaEx
import Derived.Deep.Slices
import Derived.OpenShut
import Derived.ChangeSame
import Derived.DataReads
namespace Go.Proofs.Ytonlkmkfcaadlaa.ExO
open Go.ChangeShapes Go.WideShapes Go.ChangeAt Go.RowKit Go.Deep
open ExM ExL
set_option linter.unusedVariables false

theorem bulk_one {H : Type} (d : DataW H) : 1 ≤ Rows.uptoBulk d := by
  cases d with
  | lit l => cases l <;> simp [Rows.uptoBulk]
  | nil => simp [Rows.uptoBulk]
  | ptr d => simp [Rows.uptoBulk]
  | slice elems spare => simp [Rows.uptoBulk]
  | agg parts => simp [Rows.uptoBulk]
  | iface t d => simp [Rows.uptoBulk]
  | map entries => simp [Rows.uptoBulk]
  | held h => simp [Rows.uptoBulk]
theorem bulk_app {H : Type} (l r : List (DataW H)) : Rows.uptoBulkAll (l ++ r) = Rows.uptoBulkAll l + Rows.uptoBulkAll r := by
  induction l with
  | nil => simp [Rows.uptoBulkAll]
  | cons x l ih => simp only [List.cons_append, Rows.uptoBulkAll, ih]; omega
theorem len3 {α : Type} {l : List α} (h : l.length = 3) : ∃ a b c, l = [a, b, c] := by
  match l, h with
  | [a, b, c], _ => exact ⟨a, b, c, rfl⟩
theorem len4 {α : Type} {l : List α} (h : l.length = 4) : ∃ a b c d, l = [a, b, c, d] := by
  match l, h with
  | [a, b, c, d], _ => exact ⟨a, b, c, d, rfl⟩
theorem len6 {α : Type} {l : List α} (h : l.length = 6) : ∃ a b c d e f, l = [a, b, c, d, e, f] := by
  match l, h with
  | [a, b, c, d, e, f], _ => exact ⟨a, b, c, d, e, f, rfl⟩
def exC (d : Nd) (A : Option Addr) (n c : Nat) : List Value := [.int .i64 d.op, .int .i64 d.k, .int .i64 d.n, .string d.s, .string d.nm, .slice A n c]
theorem addAdd (p : Addr) (j : Nat) (h : j ≠ 0) : p.add j = ⟨p.block, p.off + j, none⟩ := by unfold Addr.add; rw [if_neg h]
theorem at_of {w : World} {p : Addr} {d : Nd} {A : Option Addr} {n c : Nat} (h : ∀ i, i < 6 → w.cell? (p.add i) = (exC d A n c)[i]?) : At w p d A n c := by
  have h0 := h 0 (by decide); have h1 := h 1 (by decide); have h2 := h 2 (by decide); have h3 := h 3 (by decide); have h4 := h 4 (by decide); have h5 := h 5 (by decide)
  rw [addAdd _ _ (by decide)] at h1 h2 h3 h4 h5
  rw [show p.add 0 = p from by unfold Addr.add; rw [if_pos rfl]] at h0
  exact ⟨h0, h1, h2, h3, h4, h5⟩
theorem bulk_nodes {H : Type} : ∀ (l : List Ex) (D : List (DataW H)), l.length = D.length → (∀ (j : Nat) (h : j < l.length) (g : j < D.length), l[j].nodes ≤ Rows.uptoBulk D[j]) → nodesL l ≤ Rows.uptoBulkAll D
  | [], _, _, _ => by simp [nodesL_nil]
  | x :: l, [], h, _ => by simp at h
  | x :: l, y :: D, h, hb => by
    rw [nodesL_cons]
    simp only [Rows.uptoBulkAll]
    have h0 := hb 0 (by simp) (by simp)
    simp only [List.getElem_cons_zero] at h0
    have := bulk_nodes l D (by simpa using h) (fun j hj gj => by
      have := hb (j + 1) (by simpa using hj) (by simpa using gj)
      simpa only [List.getElem_cons_succ] using this)
    omega
instance : Inhabited Ex := ⟨.mk ⟨0, 0, 0, ⟨#[]⟩, ⟨#[]⟩⟩ []⟩
theorem choose_ex {len : Nat} {P : Nat → Ex → Prop} (h : ∀ i, i < len → ∃ x, P i x) : ∃ l : List Ex, l.length = len ∧ ∀ (j : Nat) (hj : j < l.length), P j l[j] := by
  obtain ⟨X, hX⟩ := Classical.axiomOfChoice (r := fun (i : Nat) (x : Ex) => i < len → P i x) (fun i => by
    by_cases hi : i < len
    · obtain ⟨x, hx⟩ := h i hi; exact ⟨x, fun _ => hx⟩
    · exact ⟨default, fun g => absurd g hi⟩)
  exact ⟨(List.range len).map X, by simp, fun j hj => by simp at hj ⊢; exact hX j hj⟩

set_option maxHeartbeats 1000000 in
theorem row_ex {H : Type} {enc : TypeId × Value → H} {W : World} : ∀ (fuel : Nat) {cs : List Value} {y : DataW H × List MemPlace},
    DataW.trod enc Try.prog W 0 (fun _ => true) true fuel 34 cs = some y → ∃ x d A n c, cs = exC d A n c ∧ Is W x d A n ∧ x.nodes ≤ Rows.uptoBulk y.1 := by
  intro fuel
  induction fuel using Nat.strongRecOn with
  | ind fuel IH =>
  intro cs y h
  obtain ⟨ys, f1, hfu, hx, hl, hlen, hf⟩ := DataW.trod_struct Try.underlying34 h
  have hC : Try.prog.cellsOf 34 = 6 := by kernel_rfl
  rw [hC] at hl
  obtain ⟨d0, d1, d2, d3, d4, d5, rfl⟩ := len6 hl
  obtain ⟨y0, y1, y2, y3, rfl⟩ := len4 (show ys.length = 4 from hlen)
  have g0 := hf 0 _ rfl
  have g1 := hf 1 _ rfl
  have g2 := hf 2 _ rfl
  have g3 := hf 3 _ rfl
  have c0 : Try.prog.cellsOf 3 = 1 := by kernel_rfl
  have c1 : Try.prog.cellsOf 31 = 3 := by kernel_rfl
  have c2 : Try.prog.cellsOf 9 = 1 := by kernel_rfl
  have c3 : Try.prog.cellsOf 32 = 1 := by kernel_rfl
  simp [c0] at g0
  simp [c1] at g1
  simp [c2] at g2
  simp [c3] at g3
  obtain ⟨op, e0, _, _⟩ := DataW.trod_int Try.underlying3 g0
  simp only [List.cons.injEq, and_true] at e0
  subst e0
  obtain ⟨nm, e2, _, hnm⟩ := DataW.trod_string Try.underlying9 g2
  simp only [List.cons.injEq, and_true] at e2
  subst e2
  obtain ⟨zs, f2, hfu2, _, _, zlen, zf⟩ := DataW.trod_struct Try.underlying31 g1
  obtain ⟨z0, z1, z2, rfl⟩ := len3 (show zs.length = 3 from zlen)
  have k0 := zf 0 _ rfl
  have k1 := zf 1 _ rfl
  have k2 := zf 2 _ rfl
  simp [c0] at k0 k1
  simp [c2] at k2
  obtain ⟨k, e3, _, _⟩ := DataW.trod_int Try.underlying3 k0
  obtain ⟨n, e4, _, _⟩ := DataW.trod_int Try.underlying3 k1
  obtain ⟨s, e5, _, hs⟩ := DataW.trod_string Try.underlying9 k2
  simp only [List.cons.injEq, and_true] at e3 e4 e5
  subst e3 e4 e5
  subst hx
  rcases DataW.trod_slice Try.underlying32 g3 with ⟨e6, hy3⟩ | ⟨a, len, cap, elems, rest, f3, hf3, e6, hy3, _, hlc, hcap, hel, hat, _, _⟩
  · simp only [List.cons.injEq, and_true] at e6
    subst e6
    refine ⟨.mk ⟨op, k, n, s, nm⟩ [], ⟨op, k, n, s, nm⟩, none, 0, 0, rfl, is_mk.2 ⟨rfl, rfl, ⟨Nat.zero_le _, hs, hnm⟩, fun j hj => absurd hj (by simp)⟩, ?_⟩
    rw [nodes_mk, nodesL_nil]
    exact bulk_one _
  · simp only [List.cons.injEq, and_true] at e6
    subst e6
    obtain ⟨l, hll, hl2⟩ := choose_ex (len := len) (P := fun i x => ∃ (d : Nd) (A : Option Addr) (n c : Nat), At W (a.add (i * 6)) d A n c ∧ Is W x d A n ∧ ∀ g : i < elems.length, x.nodes ≤ Rows.uptoBulk elems[i].1) (fun i hi => by
      have h1 := hat i hi
      rw [hC] at h1
      have h2 : elems[i]? = some elems[i] := List.getElem?_eq_getElem (by omega)
      rw [h2] at h1
      obtain ⟨cs', hcs, htr⟩ := Option.bind_eq_some_iff.1 h1
      obtain ⟨_, hcl, hat⟩ := World.cells?_some hcs
      obtain ⟨x, d, A, n, c, rfl, hi2, hb⟩ := IH f3 (by omega) htr
      exact ⟨x, d, A, n, c, at_of hat, hi2, fun _ => hb⟩)
    have hlm : len ≤ maxLen := by omega
    refine ⟨.mk ⟨op, k, n, s, nm⟩ l, ⟨op, k, n, s, nm⟩, some a, len, cap, rfl, is_mk.2 ⟨rfl, hll.symm, ⟨hlm, hs, hnm⟩, fun j hj => ?_⟩, ?_⟩
    · obtain ⟨d, A, n, c, h1, h2, _⟩ := hl2 j hj
      exact ⟨a, d, A, n, c, rfl, h1, h2⟩
    · have hb := bulk_nodes l (elems.map (·.1)) (by simp; omega) (fun j hj gj => by
        obtain ⟨d, A, n, c, h1, h2, h3⟩ := hl2 j hj
        have := h3 (by simpa using gj)
        simpa using this)
      rw [nodes_mk]
      subst hy3
      simp only [List.map_cons, List.map_nil, Rows.uptoBulk, Rows.uptoBulkAll]
      omega

set_option maxRecDepth 100000 in
/-- A parameter that is a formula. -/
theorem open_ex {H : Type} {enc : TypeId × Value → H} {W : World} {base : Nat} {v : Value} {d : DataW H} {p : List MemPlace}
    (hv : Value.okWide Try.prog W .any base 34 v) (h : DataW.Trod enc Try.prog W 0 (fun _ => true) true 34 v d p) :
    ∃ x e A n c, v = .agg #[.int .i64 e.op, .int .i64 e.k, .int .i64 e.n, .string e.s, .string e.nm, .slice A n c] ∧ Is W x e A n ∧ x.nodes ≤ Rows.uptoBulk d := by
  obtain ⟨cs, rfl, hsz⟩ := okWide_struct Try.underlying34 hv
  obtain ⟨fuel, hf⟩ := h
  obtain ⟨x, e, A, n, c, he, hi, hb⟩ := row_ex fuel hf
  have e' : cs.toList = _ := he
  obtain rfl : cs = (exC e A n c).toArray := by rw [← Array.toArray_toList (xs := cs), e']
  exact ⟨x, e, A, n, c, rfl, hi, hb⟩
end Go.Proofs.Ytonlkmkfcaadlaa.ExO
