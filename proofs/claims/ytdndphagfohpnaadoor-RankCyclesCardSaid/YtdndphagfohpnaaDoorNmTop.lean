/- The reference's asked, holds, NamesHas. The reference's rising: each once, the least one first. The reference's NamesOf; two lists of the same strings. -/
import Derived.Test.YtdndphagfohpnaaDoorNmPut
import Derived.Laws.AppendOwnNone
import Derived.Test.YtdndphagfohpnaaDoorNmOf
import Derived.Test.YtdndphagfohpnaaDoorBase
import Derived.Deep.AppendLies
import Derived.Deep.RegionHeld3
import Derived.Deep.QuietTactic
import Derived.Deep.RegionWith
import Derived.Deep.RegionLaw
import Derived.Deep.DrawnRows
import Derived.BigQuiet
import Derived.Sort.EncStr
import Derived.Test.YtdndphagfohpnaaDoorExRef
import Derived.RegionTactic
namespace Go.Proofs.YtdndphagfohpnaaDoor.NmA
open Go.RowKit
open ExM NmM Kit ExL ExP ExV NmC NmP NmR
set_option linter.unusedVariables false

def strV (L : List ByteArray) : List Value := L.map Value.string
theorem strV_len (L : List ByteArray) : (strV L).length = L.length := List.length_map _
theorem strV_append (L M : List ByteArray) : strV (L ++ M) = strV L ++ strV M := List.map_append
theorem strV_one {L : List ByteArray} : ∀ u ∈ strV L, u.oneCell' = true := fun u hu => by
  obtain ⟨s, _, rfl⟩ := List.mem_map.1 hu; rfl
theorem infoStr : (Tryd.prog.info? 9).map (fun i => (i.zero, i.size, i.bytes)) = some (some (.string ⟨#[]⟩), 1, 16) := by kernel_rfl
/-- A list of strings that a call has made. -/
def AskOut (L : List ByteArray) (w : World) (e : Ending) (w' : World) : Prop :=
  ∃ v : Value, e = .returned v ∧ w'.ownsRow w.heap.size 9 1 v L.length (strV L) ∧ Below w.heap.size w w'
structure AInv (w : World) (L : List ByteArray) (v : Value) (wr : World) : Prop where
  own : wr.ownsRow (w.heap.size + 1) 9 1 v L.length (strV L)
  below : Below w.heap.size w wr
  lt : w.heap.size < wr.heap.size
theorem own_src {w : World} {base : Nat} {v : Value} {L : List ByteArray} (h : w.ownsRow base 9 1 v L.length (strV L)) : (v = .slice none 0 0 ∧ L = []) ∨ ∃ g cap, v = .slice (some ⟨g, 0, none⟩) L.length cap ∧ ∀ (j : Nat) (u : Value), (strV L)[j]? = some u → w.cell? ((⟨g, 0, none⟩ : Addr).add j) = some u := by
  rcases h.2 with ⟨h1, h2⟩ | ⟨g, cap, cur, h1, _⟩
  · exact .inl ⟨h1, List.eq_nil_of_length_eq_zero h2⟩
  · subst h1
    refine .inr ⟨g, cap, rfl, fun j u hj => ?_⟩
    have hl := (List.getElem?_eq_some_iff.1 hj).1
    rw [strV_len] at hl
    rw [ExP.add_block, h.cellAt j (by omega), hj]

/-- A slice that holds these strings. -/
def SRow (w : World) (A : Option Addr) (L : List ByteArray) : Prop := ∀ (j : Nat) (h : j < L.length), ∃ g, A = some ⟨g, 0, none⟩ ∧ w.cell? ⟨g, j, none⟩ = some (.string L[j])
theorem SRow.of_own {w : World} {base : Nat} {v : Value} {L : List ByteArray} (h : w.ownsRow base 9 1 v L.length (strV L)) : ∃ A c, v = .slice A L.length c ∧ SRow w A L := by
  rcases h.2 with ⟨h1, h2⟩ | ⟨g, cap, cur, h1, _⟩
  · exact ⟨none, 0, by rw [h1, h2], fun j hj => by omega⟩
  · subst h1
    refine ⟨some ⟨g, 0, none⟩, cap, rfl, fun j hj => ⟨g, rfl, ?_⟩⟩
    rw [h.cellAt j (by omega), List.getElem?_eq_getElem (by rw [strV_len]; exact hj)]
    unfold strV; rw [List.getElem_map]
theorem hasB_take (L : List ByteArray) (s : ByteArray) (k : Nat) (h : k < L.length) : hasB (L.take (k + 1)) s = (hasB (L.take k) s || decide (L[k] = s)) := by
  rw [take_at L k h, hasB_append, hasB_cons, hasB_nil, Bool.or_false]
theorem hasB_of_take {L : List ByteArray} {s : ByteArray} {k : Nat} (h : hasB (L.take k) s = true) : hasB L s = true := hasB_prefix (List.take_prefix k L) h

end Go.Proofs.YtdndphagfohpnaaDoor.NmA
namespace Go.Proofs.YtdndphagfohpnaaDoor.NmI
open Go.RowKit
open ExM NmM Kit ExL ExP ExV NmC NmP NmR NmA NmO
set_option linter.unusedVariables false

theorem less_lt : ∀ (l m : List UInt8), Op.bytesLess l m = decide (l < m)
  | [], [] => by simp [Op.bytesLess]
  | [], _ :: _ => by simp [Op.bytesLess]
  | _ :: _, [] => by simp [Op.bytesLess]
  | a :: l, b :: m => by
    unfold Op.bytesLess
    rw [less_lt l m]
    rw [Bool.eq_iff_iff]
    simp only [Bool.or_eq_true, Bool.and_eq_true, decide_eq_true_eq, beq_iff_eq, List.cons_lt_cons_iff]
/-- Where all ahead of a place are not greater and the next one is, a text belongs there. -/
theorem place_at (s : Bs) : ∀ (M : List Bs) (k : Nat), k ≤ M.length → (∀ (j : Nat) (h : j < M.length), j < k → ¬ s < M[j]) → (∀ h : k < M.length, s < M[k]) → place s M = M.take k ++ s :: M.drop k
  | [], 0, _, _, _ => rfl
  | [], k + 1, h, _, _ => by simp at h
  | t :: r, 0, _, _, h3 => by
    have := h3 (by simp)
    unfold place; rw [if_pos (by simpa using this)]; rfl
  | t :: r, k + 1, h1, h2, h3 => by
    have h0 := h2 0 (by simp) (by omega)
    unfold place; rw [if_neg (by simpa using h0), place_at s r k (by simpa using h1) (fun j hj hk => by have := h2 (j + 1) (by simpa using hj) (by omega); simpa using this) (fun hk => by have := h3 (by simpa using hk); simpa using this)]
    simp
theorem sorted_at {M : List Bs} (h : M.Pairwise (· < ·)) {i j : Nat} (hi : i < M.length) (hj : j < M.length) (hij : i ≤ j) : M[i] ≤ M[j] := by
  rcases Nat.lt_or_ge i j with g | g
  · exact List.le_of_lt (List.pairwise_iff_getElem.1 h i j hi hj g)
  · have : i = j := by omega
    subst this; exact List.le_refl _
/-- A text's place, found from behind. -/
theorem place_found {M : List Bs} (h : M.Pairwise (· < ·)) (s : Bs) (k : Nat) (hk : k ≤ M.length) (h1 : ∀ hl : 0 < k, ¬ s < M[k - 1]) (h2 : ∀ hl : k < M.length, s < M[k]) : place s M = M.take k ++ s :: M.drop k :=
  place_at s M k hk (fun j hj hjk hlt => List.not_lt.2 (List.le_trans (sorted_at h hj (by omega) (by omega)) (List.not_lt.1 (h1 (by omega)))) hlt) h2

def mkB (b : Bs) : ByteArray := ⟨b.toArray⟩
theorem mkB_toList (b : Bs) : (mkB b).data.toList = b := rfl
def mkL (M : List Bs) : List ByteArray := M.map mkB
theorem mkL_len (M : List Bs) : (mkL M).length = M.length := List.length_map _
theorem mkL_append (M N : List Bs) : mkL (M ++ N) = mkL M ++ mkL N := List.map_append
theorem mkB_of (s : ByteArray) : mkB s.data.toList = s := by cases s with | mk a => cases a; rfl
theorem strV_mkL (M : List Bs) : strV (mkL M) = M.map encStr := by unfold strV mkL; rw [List.map_map]; rfl
theorem hasB_mkL (M : List Bs) (s : ByteArray) : hasB (mkL M) s = decide (s.data.toList ∈ M) := by
  rw [Bool.eq_iff_iff, hasB_true, decide_eq_true_eq]
  unfold mkL
  rw [List.mem_map]
  constructor
  · rintro ⟨b, hb, e⟩
    rw [← e]; exact hb
  · intro h
    exact ⟨_, h, mkB_of s⟩
theorem bytesL_at (L : List ByteArray) (k : Nat) (h : k < L.length) : rise (bytesL (L.take (k + 1))) = ins (rise (bytesL (L.take k))) L[k].data.toList := by
  rw [take_at L k h]
  unfold bytesL
  rw [List.map_append]
  exact rise_snoc _ _

theorem own_take {w : World} {base : Nat} {g n cap k : Nat} {e : TypeId} {xs : List Value} (h : w.ownsRow base e 1 (.slice (some ⟨g, 0, none⟩) n cap) n xs) (hk : k ≤ n) : w.ownsRow base e 1 (.slice (some ⟨g, 0, none⟩) k cap) k (xs.take k) := by
  rcases h.2 with ⟨h1, _⟩ | ⟨g', cap', cur, h1, h2, h3, h4, h5, h6, h7⟩
  · cases h1
  · simp only [Value.slice.injEq, Option.some.injEq, Addr.mk.injEq, and_true, true_and] at h1
    obtain ⟨rfl, rfl⟩ := h1
    refine ⟨by rw [List.length_take, h.1]; omega, .inr ⟨g, cap, cur, rfl, h2, h3, by omega, h5, h6, ?_⟩⟩
    rw [← h7, List.take_take]; congr 1; omega
section
variable {P : Program} (w : World)
theorem step_append_own {ops : Array Oper} {o : Oper} {a : Act} {K : Act → World → Prop} {Q : Exit → Act → World → Prop} {E : Prop} (hgd : o.guard = none) (s x : Operand) (t : TypeId)
    (ho : o.op = .call { callee := .builtin .append, args := #[s, x], argTypes := #[t, t] })
    (base : Nat) (e : TypeId) (i : TypeInfo) (z : Value) (size bytes : Nat) (ht : P.underlying t = some (.slice e)) (hi : P.info? e = some i) (hz : i.zero = some z)
    (hsize : i.size = size) (hby : i.bytes = bytes) (hzs : z.cells.size = size) (hsz : 0 < size)
    (v : Value) (n : Nat) (xs : List Value) (hs : a.eval s = v) (hown : w.ownsRow base e size v n xs)
    (ad : Addr) (m c : Nat) (news : List Value) (hx : a.eval x = .slice (some ad) m c) (hl : news.length = m * size) (hnews : ∀ j u, news[j]? = some u → w.cell? (ad.add j) = some u) (h1 : ∀ u ∈ news, u.oneCell' = true)
    (h63 : n + m ≤ maxLen) (hbytes : (n + m) * bytes ≤ 140737488355328) (hbase : base ≤ w.heap.size)
    (h : ∀ v' w', w'.ownsRow base e size v' (n + m) (xs ++ news) → w.grownBy w' v.ownBlock → (v' = .slice none 0 0 ↔ v = .slice none 0 0 ∧ m = 0) → K (a.put o.dst v') w') :
    if Region.wanted o (yielded ops a.tmps) = true then Oper.wp P o a w K Q else E := by
  have hw : Region.wanted o (yielded ops a.tmps) = true := by simp [Region.wanted, hgd]
  rw [if_pos hw]
  exact wp_append_own w s x t ho base e i z size bytes ht hi hz hsize hby hzs hsz v n xs hs hown ad m c news hx hl hnews h1 h63 hbytes hbase h
theorem step_append_nil {ops : Array Oper} {o : Oper} {a : Act} {K : Act → World → Prop} {Q : Exit → Act → World → Prop} {E : Prop} (hgd : o.guard = none) (s x : Operand) (t : TypeId)
    (ho : o.op = .call { callee := .builtin .append, args := #[s, x], argTypes := #[t, t] })
    (base : Nat) (e : TypeId) (i : TypeInfo) (size : Nat) (ht : P.underlying t = some (.slice e)) (hi : P.info? e = some i)
    (v : Value) (n : Nat) (xs : List Value) (hs : a.eval s = v) (hown : w.ownsRow base e size v n xs) (hx : a.eval x = .slice none 0 0)
    (h : K (a.put o.dst v) w) : if Region.wanted o (yielded ops a.tmps) = true then Oper.wp P o a w K Q else E := by
  have hw : Region.wanted o (yielded ops a.tmps) = true := by simp [Region.wanted, hgd]
  rw [if_pos hw]
  have hrun := run_append_owned_none (P := P) (w := w) base t o.type e i size ht hi v n xs hown
  unfold Oper.wp execOp
  simp only [ho, resolve, invoke, builtin, Sem.run_bind, Sem.run_pure, Result.andThen_ok, List.map_toArray, List.map_cons, List.map_nil, hs, hx, hrun]
  exact h
end
/-- Between two texts. -/
structure RInv (w : World) (M : List Bs) (v : Value) (wr : World) : Prop where
  own : wr.ownsRow w.heap.size 9 1 v M.length (M.map encStr)
  nil : M = [] → v = .slice none 0 0
  below : Below w.heap.size w wr
def RiseOut (M : List Bs) (w : World) (e : Ending) (w' : World) : Prop := ∃ v : Value, e = .returned v ∧ w'.ownsRow w.heap.size 9 1 v M.length (M.map encStr) ∧ Below w.heap.size w w'
theorem enc_at (M : List Bs) (j : Nat) (h : j < M.length) : (M.map encStr)[j]? = some (.string (mkB M[j])) := by rw [List.getElem?_map, List.getElem?_eq_getElem h]; rfl
theorem enc_one {M : List Bs} : ∀ u ∈ M.map encStr, u.oneCell' = true := fun u hu => by
  obtain ⟨s, _, rfl⟩ := List.mem_map.1 hu; rfl

theorem ins_new {M : List Bs} {s : Bs} (h : s ∉ M) : ins M s = place s M := by unfold ins; rw [if_neg h]
theorem RInv.put {w wo w9 : World} {M : List Bs} {v v9 : Value} {s : ByteArray} {k : Nat} (h : RInv w M v wo) (hk : k ≤ M.length) (hp : place s.data.toList M = M.take k ++ s.data.toList :: M.drop k)
    (hown : w9.ownsRow w.heap.size 9 1 v9 (k + (1 + (M.length - k))) ((M.map encStr).take k ++ ([.string s] ++ (M.map encStr).drop k))) (hb : Below w.heap.size w w9) : RInv w (place s.data.toList M) v9 w9 := by
  have e1 : (place s.data.toList M).length = k + (1 + (M.length - k)) := by rw [place_len]; omega
  have e2 : (place s.data.toList M).map encStr = (M.map encStr).take k ++ ([.string s] ++ (M.map encStr).drop k) := by
    rw [hp, List.map_append, List.map_cons, List.map_take, List.map_drop]
    have : encStr s.data.toList = .string s := congrArg Value.string (mkB_of s)
    rw [this]; rfl
  refine ⟨by rw [e1, e2]; exact hown, fun h => ?_, hb⟩
  rw [h] at e1; simp at e1; omega
/-- The prefix of the row is there still behind what was appended elsewhere. -/
theorem own_still {wo w2 : World} {base g n cap k B : Nat} {xs : List Value} {o : Obj} (h : wo.ownsRow base 9 1 (.slice (some ⟨g, 0, none⟩) n cap) n xs) (hk : k ≤ n) (hB : B = wo.heap.size) (hg : (wo.drew.alloc o).grownBy w2 (some B)) : w2.ownsRow base 9 1 (.slice (some ⟨g, 0, none⟩) k cap) k (xs.take k) := by
  have h1 := own_below h (b_more (b_drew (Below.refl wo.heap.size wo)) o)
  have h2 := own_take h1 hk
  refine h2.kept hg (.inr fun e => ?_)
  have e' : g = B := by injection e
  have := (h.lt g rfl).2
  omega
theorem put_below {w wo w2 w3 : World} {o : Obj} {row row2 : Option Nat} (h : Below w.heap.size w wo) (h2 : (wo.drew.alloc o).grownBy w2 row) (hr : ∀ g, row = some g → w.heap.size ≤ g) (h3 : w2.grownBy w3 row2) (hr2 : ∀ g, row2 = some g → w.heap.size ≤ g) : Below w.heap.size w w3 := by
  have hs := h.size
  have h1 : Below w.heap.size w (wo.drew.alloc o) := h.trans ((b_more (b_drew (Below.refl wo.heap.size wo)) o).mono hs)
  have h4 := h1.grown h2 h1.size hr
  exact h4.grown h3 h4.size hr2
/-! ### The walk -/
end Go.Proofs.YtdndphagfohpnaaDoor.NmI
namespace Go.Proofs.YtdndphagfohpnaaDoor.NmT
open Go.RowKit
open ExM NmM Kit ExL ExP ExV NmC NmP NmR NmA NmO NmI
set_option linter.unusedVariables false

theorem toSRow {w : World} {base : Nat} {v : Value} {M : List Bs} (h : w.ownsRow base 9 1 v M.length (M.map encStr)) : ∃ A c, v = .slice A M.length c ∧ SRow w A (mkL M) := by
  obtain ⟨A, c, e, hr⟩ := SRow.of_own (L := mkL M) (by rw [mkL_len, strV_mkL]; exact h)
  rw [mkL_len] at e
  exact ⟨A, c, e, hr⟩
theorem SRow.below {w w' : World} {A : Option Addr} {L : List ByteArray} (h : SRow w A L) (hb : Below w.heap.size w w') : SRow w' A L := fun j hj => by
  obtain ⟨g, e, hc⟩ := h j hj
  exact ⟨g, e, (hb.cell (p := ⟨g, j, none⟩) (World.block_lt_of_cell? w _ hc)).trans hc⟩
theorem bytes_refs (L : List ByteArray) : mkL (bytesL L) = L := by
  unfold mkL bytesL; rw [List.map_map]
  exact (List.map_congr_left fun s _ => mkB_of s).trans (List.map_id'' (fun _ => rfl) L)

end Go.Proofs.YtdndphagfohpnaaDoor.NmT
