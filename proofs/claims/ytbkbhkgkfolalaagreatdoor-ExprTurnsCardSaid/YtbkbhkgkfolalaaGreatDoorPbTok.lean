/- Plain mathematics: a printed formula is read as it was (P4.3, P4.4): its tokens. No program is named here. -/
import Derived.Test.YtbkbhkgkfolalaaGreatDoorPbLex
import Derived.Test.YtbkbhkgkfolalaaGreatDoorParsMath
namespace Go.Proofs.YtbkbhkgkfolalaaGreatDoor.PbT
open ValM LexM ExM ShowM PrM NumM ParseM PbL PsM
set_option linter.unusedVariables false

def opB (op : Int) : B := if op = 4 ∨ op = 15 ∨ op = 16 ∨ op = 17 ∨ op = 18 then word (signF op) else sg (signF op)
def brB (p : Int) (t : Int × List B) : List B := if precF t.1 < p then sg [40] :: (t.2 ++ [sg [41]]) else t.2
def commasB : List (List B) → List B
  | [] => []
  | [a] => a
  | a :: r => a ++ (sg [44] :: commasB r)
def argB (ts : List (Int × List B)) (i : Nat) : Int × List B := ts.getD i (0, [])
def leafB (d : Nd) : B :=
  if d.op = 1 then (if d.k = 1 then (1, Lib.itoa d.n, 1, d.n, []) else if d.k = 2 then word (showL 2 d.n []) else (3, quoteL d.s.data.toList, 3, 0, d.s.data.toList)) else word d.nm.data.toList
def btF (d : Nd) (ts : List (Int × List B)) : List B :=
  if d.op = 1 ∨ d.op = 2 then [leafB d]
  else if precF d.op = 6 then opB d.op :: sg [40] :: (commasB (ts.map (·.2)) ++ [sg [41]])
  else if precF d.op = 5 then opB d.op :: brB 5 (argB ts 0)
  else brB (leftF d.op) (argB ts 0) ++ (opB d.op :: brB (precF d.op + 1) (argB ts 1))
mutual
def Ex.bt : Ex → List B | .mk d l => btF d (btL l)
def btL : List Ex → List (Int × List B) | [] => [] | x :: l => (x.d.op, Ex.bt x) :: btL l
end
theorem bt_mk (d : Nd) (l : List Ex) : Ex.bt (.mk d l) = btF d (btL l) := by simp [Ex.bt]
theorem btL_cons (x : Ex) (l : List Ex) : btL (x :: l) = (x.d.op, Ex.bt x) :: btL l := by simp [btL]
theorem btL_map (l : List Ex) : btL l = l.map fun x => (x.d.op, Ex.bt x) := by
  induction l with
  | nil => simp [btL]
  | cons x l ih => rw [btL_cons, ih]; rfl

/-! ### The nodes -/
/-- What a right node is. -/
theorem node_ok {d : Nd} {m : Nat} (h : nodeE d m = 0) : 1 ≤ d.op ∧ d.op ≤ 18 ∧ m = arity d.op ∧ vOk d = true ∧ nmOk d = true := by
  unfold nodeE at h
  by_cases hr : d.op < 1 ∨ 18 < d.op
  · rw [if_pos hr] at h; exact absurd h (by decide)
  · rw [if_neg hr] at h
    by_cases hg : m = arity d.op ∧ vOk d = true ∧ nmOk d = true
    · exact ⟨by omega, by omega, hg⟩
    · rw [if_neg hg] at h; exact absurd h (by decide)
theorem bytes_nil {s : ByteArray} (h : s.data.toList.isEmpty = true) : s = ⟨#[]⟩ := by
  have h1 : s.data.toList = [] := List.isEmpty_iff.1 h
  obtain ⟨⟨l⟩⟩ := s
  simp at h1; subst h1; rfl
/-- A node with no value and no name. -/
theorem op_nd {d : Nd} (h1 : d.op ≠ 1) (h2 : d.op ≠ 2) (hv : vOk d = true) (hn : nmOk d = true) : d = ⟨d.op, 0, 0, ⟨#[]⟩, ⟨#[]⟩⟩ := by
  unfold vOk at hv
  unfold nmOk at hn
  rw [if_neg h1] at hv
  rw [if_neg h2] at hn
  simp only [Bool.and_eq_true, decide_eq_true_eq] at hv
  obtain ⟨op, k, n, s, nm⟩ := d
  simp only at hv hn ⊢
  rw [hv.1.1, hv.1.2, bytes_nil hv.2, bytes_nil hn]
/-- A constant's parts. -/
theorem con_nd {d : Nd} (h1 : d.op = 1) (hv : vOk d = true) (hn : nmOk d = true) : d.nm = ⟨#[]⟩ ∧ ((d.k = 1 ∧ 0 ≤ d.n ∧ d.n ≤ 1099511627776 ∧ d.s = ⟨#[]⟩) ∨ (d.k = 2 ∧ (d.n = 0 ∨ d.n = 1) ∧ d.s = ⟨#[]⟩) ∨ (d.k = 3 ∧ d.n = 0 ∧ cleanL d.s.data.toList = true ∧ d.s.data.toList.length ≤ 40)) := by
  unfold vOk at hv
  unfold nmOk at hn
  rw [if_pos h1] at hv
  rw [if_neg (by omega)] at hn
  refine ⟨bytes_nil hn, ?_⟩
  simp only [Bool.and_eq_true, Bool.not_eq_true', Bool.and_eq_false_iff, decide_eq_false_iff_not] at hv
  obtain ⟨hk, hneg⟩ := hv
  unfold knownB isT valE at hk
  simp only [Bool.and_eq_true, Bool.or_eq_true, decide_eq_true_eq] at hk
  obtain ⟨ht, hz⟩ := hk
  by_cases hn0 : numE d.k d.n = 0
  · rw [if_pos hn0] at hz
    have hstr : d.k ≠ 3 → d.s = ⟨#[]⟩ := fun h3 => by
      unfold strE at hz
      rw [if_neg h3] at hz
      by_cases e : d.s.data.toList = []
      · exact bytes_nil (by rw [e]; rfl)
      · rw [if_neg e] at hz; exact absurd hz (by decide)
    rcases ht with (h | h) | h
    · refine .inl ⟨h, ?_, ?_, hstr (by omega)⟩
      · rcases hneg with g | g <;> omega
      · unfold numE at hn0
        rw [if_pos h] at hn0
        cases hb : NumM.okN d.n
        · rw [hb] at hn0; simp at hn0
        · exact (NumM.okN_iff.1 hb).2
    · refine .inr (.inl ⟨h, ?_, hstr (by omega)⟩)
      unfold numE at hn0
      rw [if_neg (by omega), if_pos h] at hn0
      by_cases g : 0 ≤ d.n ∧ d.n ≤ 1
      · omega
      · rw [if_neg g] at hn0; exact absurd hn0 (by decide)
    · refine .inr (.inr ⟨h, ?_, ?_⟩)
      · unfold numE at hn0
        rw [if_neg (by omega), if_neg (by omega), if_pos (.inl h)] at hn0
        by_cases g : d.n = 0
        · exact g
        · rw [if_neg g] at hn0; exact absurd hn0 (by decide)
      · unfold strE at hz
        rw [if_pos h] at hz
        by_cases h40 : 40 < d.s.data.toList.length
        · rw [if_pos h40] at hz; exact absurd hz (by decide)
        · rw [if_neg h40] at hz
          refine ⟨?_, by omega⟩
          cases hc : cleanL d.s.data.toList
          · rw [hc] at hz; simp at hz
          · rfl
  · rw [if_neg hn0] at hz; exact absurd hz hn0
theorem len2 {α : Type} {l : List α} (h : l.length = 2) : ∃ x y, l = [x, y] := by
  match l, h with
  | [a, b], _ => exact ⟨a, b, rfl⟩
theorem ops {op : Int} (h1 : 3 ≤ op) (h2 : op ≤ 18) : op = 3 ∨ op = 4 ∨ op = 5 ∨ op = 6 ∨ op = 7 ∨ op = 8 ∨ op = 9 ∨ op = 10 ∨ op = 11 ∨ op = 12 ∨ op = 13 ∨ op = 14 ∨ op = 15 ∨ op = 16 ∨ op = 17 ∨ op = 18 := by omega

/-! ### The text is these tokens -/
theorem lx_nil : Lx [] [] := fun rest p _ => ⟨[], rfl, rfl⟩
theorem lx_br {p op : Int} {l : List UInt8} {bs : List B} (h : Lx l bs) : Lx (br p (op, l)) (brB p (op, bs)) := by
  unfold br brB
  split
  · exact (LxA.cat (a := [40]) (lx_sign (by decide) (by decide)) (h.sep (c := 41) (b := []) (by decide) (lx_sign (by decide) (by decide)))).lx
  · exact h
theorem lx_commas : ∀ l : List Ex, (∀ x ∈ l, Lx (Ex.txt x) (Ex.bt x)) → Lx (commas (l.map Ex.txt)) (commasB (l.map Ex.bt))
  | [], _ => lx_nil
  | [x], h => h x (by simp)
  | x :: y :: r, h => by
    have ih := lx_commas (y :: r) fun z hz => h z (by simp only [List.mem_cons] at hz ⊢; exact .inr hz)
    exact (h x (by simp)).sep' (c := 44) (by decide) (LxA.cat' (a := [44]) (lx_sign (by decide) (by decide)) (LxA.cat' (a := [32]) lx_space ih))
theorem lx_op {op : Int} (h1 : 5 ≤ op) (h2 : op ≤ 16) : Lx (signF op) [opB op] := by
  obtain h | h | h | h | h | h | h | h | h | h | h | h | h | h | h | h := ops (by omega : 3 ≤ op) (by omega)
  all_goals try omega
  all_goals subst h
  · exact (lx_sign (c := 42) (by decide) (by decide)).lx
  · exact (lx_sign (c := 47) (by decide) (by decide)).lx
  · exact (lx_sign (c := 37) (by decide) (by decide)).lx
  · exact (lx_sign (c := 43) (by decide) (by decide)).lx
  · exact (lx_sign (c := 45) (by decide) (by decide)).lx
  · exact (lx_sign (c := 38) (by decide) (by decide)).lx
  · exact lx_less
  · exact (lx_two (.inl rfl)).lx
  · exact (lx_sign (c := 61) (by decide) (by decide)).lx
  · exact (lx_two (.inr rfl)).lx
  · exact lx_word (l := [97, 110, 100]) (by decide) (by decide)
  · exact lx_word (l := [111, 114]) (by decide) (by decide)
theorem prec_bin {op : Int} (h1 : 5 ≤ op) (h2 : op ≤ 16) : 0 ≤ precF op ∧ precF op ≤ 4 := by
  obtain h | h | h | h | h | h | h | h | h | h | h | h | h | h | h | h := ops (by omega : 3 ≤ op) (by omega)
  all_goals try omega
  all_goals subst h; decide
theorem lx_leaf {d : Nd} (h : d.op = 1 ∨ d.op = 2) (hv : vOk d = true) (hn : nmOk d = true) (ts : List (Int × List UInt8)) : Lx (txtF d ts) [leafB d] := by
  unfold txtF leafB
  by_cases h1 : d.op = 1
  · rw [if_pos h1, if_pos h1]
    obtain ⟨_, ⟨hk, g0, g1, hs⟩ | ⟨hk, g, hs⟩ | ⟨hk, g, g1, g2⟩⟩ := con_nd h1 hv hn
    · rw [if_pos hk, hk]
      show Lx (Lib.itoa d.n) _
      exact lx_num g0 g1
    · rw [if_neg (by omega), if_pos hk, hk]
      rcases g with g | g
      · rw [g]; exact lx_word (l := falseB) (by decide) (by decide)
      · rw [g]; exact lx_word (l := trueB) (by decide) (by decide)
    · rw [if_neg (by omega), if_neg (by omega), hk]
      show Lx (quoteL d.s.data.toList) _
      exact (lx_quo g1 g2).lx
  · have h2 : d.op = 2 := by omega
    rw [if_neg h1, if_pos h2, if_neg h1]
    unfold nmOk nmB at hn
    rw [if_pos h2] at hn
    simp only [Bool.and_eq_true, decide_eq_true_eq] at hn
    exact lx_word hn.1.2 hn.1.1.2
theorem lx_txt : ∀ x : Ex, x.okN → Lx (Ex.txt x) (Ex.bt x) := by
  refine Ex.ind fun d l ih => ?_
  intro hok
  obtain ⟨h0, hl⟩ := (okN_mk d l).1 hok
  obtain ⟨ho1, ho2, ha, hv, hn⟩ := node_ok h0
  have ih' : ∀ x ∈ l, Lx (Ex.txt x) (Ex.bt x) := fun x hx => ih x hx (hl x hx)
  rw [txt_mk, bt_mk]
  unfold btF
  by_cases hlf : d.op = 1 ∨ d.op = 2
  · rw [if_pos hlf]; exact lx_leaf hlf hv hn _
  rw [if_neg hlf]
  have e1 : (txtL l).map (·.2) = l.map Ex.txt := by rw [txtL_map, List.map_map]; rfl
  have e2 : (btL l).map (·.2) = l.map Ex.bt := by rw [btL_map, List.map_map]; rfl
  unfold txtF
  rw [if_neg (by omega), if_neg (by omega)]
  by_cases h6 : precF d.op = 6
  · rw [if_pos h6, if_pos h6, e1, e2]
    have hop : Lx (signF d.op) [opB d.op] := by
      obtain h | h | h | h | h | h | h | h | h | h | h | h | h | h | h | h := ops (by omega : 3 ≤ d.op) (by omega)
      all_goals rw [h] at h6 ⊢
      all_goals first | (exfalso; revert h6; decide) | exact lx_word (l := [105, 102]) (by decide) (by decide) | exact lx_word (l := [108, 101, 110]) (by decide) (by decide)
    exact (hop.sep (c := 40) (by decide) (LxA.cat (a := [40]) (lx_sign (by decide) (by decide)) ((lx_commas l ih').sep (c := 41) (b := []) (by decide) (lx_sign (by decide) (by decide))))).lx
  rw [if_neg h6, if_neg h6]
  have hlen := ha
  by_cases h5 : precF d.op = 5
  · rw [if_pos h5, if_pos h5]
    have h34 : d.op = 3 ∨ d.op = 4 := by
      obtain h | h | h | h | h | h | h | h | h | h | h | h | h | h | h | h := ops (by omega : 3 ≤ d.op) (by omega)
      all_goals rw [h] at h5 ⊢
      all_goals first | decide | (exfalso; revert h5; decide)
    obtain ⟨x, rfl⟩ : ∃ x, l = [x] := by
      have : l.length = 1 := by rw [ha]; unfold arity; rcases h34 with h | h <;> rw [h] <;> rfl
      exact List.length_eq_one_iff.1 this
    have hb := lx_br (p := 5) (op := x.d.op) (ih' x (by simp))
    rw [txtL_cons, btL_cons]
    show Lx (if d.op = 4 then signF d.op ++ (32 :: br 5 (x.d.op, Ex.txt x)) else signF d.op ++ br 5 (x.d.op, Ex.txt x)) (opB d.op :: brB 5 (x.d.op, Ex.bt x))
    rcases h34 with h | h
    · rw [if_neg (by omega), h]
      exact LxA.cat' (a := [45]) (lx_sign (by decide) (by decide)) hb
    · rw [if_pos h, h]
      exact (lx_word (l := [110, 111, 116]) (by decide) (by decide)).sep' (c := 32) (by decide) (LxA.cat' (a := [32]) lx_space hb)
  · have h34 : d.op ≠ 3 ∧ d.op ≠ 4 ∧ d.op ≠ 17 ∧ d.op ≠ 18 := by
      refine ⟨?_, ?_, ?_, ?_⟩
      · intro h; rw [h] at h5; exact h5 (by decide)
      · intro h; rw [h] at h5; exact h5 (by decide)
      · intro h; rw [h] at h6; exact h6 (by decide)
      · intro h; rw [h] at h6; exact h6 (by decide)
    rw [if_neg h5, if_neg h34.2.1, if_neg h5]
    obtain ⟨x, y, rfl⟩ : ∃ x y, l = [x, y] := by
      have : l.length = 2 := by rw [ha]; unfold arity; rw [if_neg (by omega), if_neg (by omega), if_neg (by omega)]
      exact len2 this
    have hx := lx_br (p := leftF d.op) (op := x.d.op) (ih' x (by simp))
    have hy := lx_br (p := precF d.op + 1) (op := y.d.op) (ih' y (by simp))
    rw [txtL_cons, btL_cons, txtL_cons, btL_cons]
    show Lx (br (leftF d.op) (x.d.op, Ex.txt x) ++ (32 :: (signF d.op ++ (32 :: br (precF d.op + 1) (y.d.op, Ex.txt y))))) (brB (leftF d.op) (x.d.op, Ex.bt x) ++ (opB d.op :: brB (precF d.op + 1) (y.d.op, Ex.bt y)))
    exact hx.sep' (c := 32) (by decide) (LxA.cat' (a := [32]) lx_space ((lx_op (by omega) (by omega)).sep' (c := 32) (by decide) (LxA.cat' (a := [32]) lx_space hy)))
/-- The tokens of a printed formula. -/
theorem tokens_txt {x : Ex} (h : x.okN) (p : Nat) : ∃ ts, ts.map Tk.bare = Ex.bt x ∧ tokens (Ex.txt x) p = .ok ts := by
  obtain ⟨ts, e, h1⟩ := lx_txt x h [] p Sep.nil
  rw [List.append_nil, tokens_nil, app_ok, List.append_nil] at h1
  exact ⟨ts, e, h1⟩
/-- In brackets, with blanks around. -/
theorem tokens_brackets {x : Ex} (h : x.okN) (p : Nat) : ∃ ts, ts.map Tk.bare = sg [40] :: (Ex.bt x ++ [sg [41]]) ∧ tokens ([32, 40, 32] ++ Ex.txt x ++ [32, 41, 32]) p = .ok ts := by
  have h1 : LxA ([32] ++ ([40] ++ ([32] ++ (Ex.txt x ++ (32 :: [41, 32]))))) ([] ++ ([sg [40]] ++ ([] ++ (Ex.bt x ++ ([] ++ ([sg [41]] ++ [])))))) :=
    lx_space.cat ((lx_sign (by decide) (by decide)).cat (lx_space.cat ((lx_txt x h).sep (by decide) (lx_space.cat (b := [41, 32]) ((lx_sign (c := 41) (by decide) (by decide)).cat (b := [32]) lx_space)))))
  obtain ⟨ts, e, h2⟩ := h1 [] p
  rw [List.append_nil, tokens_nil, app_ok, List.append_nil] at h2
  refine ⟨ts, by rw [e]; simp, ?_⟩
  rw [← h2]
  simp
end Go.Proofs.YtbkbhkgkfolalaaGreatDoor.PbT
