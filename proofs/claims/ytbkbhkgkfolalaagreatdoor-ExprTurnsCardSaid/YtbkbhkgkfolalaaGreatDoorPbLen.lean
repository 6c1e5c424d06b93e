/- Plain mathematics: a formula's notation is no longer than the text that it was read from, but for blanks (P4.3, P4.4). No program is named here. -/
import Derived.Test.YtbkbhkgkfolalaaGreatDoorPbParse
import Derived.Lib.ReplaceLaws
import Derived.Lib.CountLaws
namespace Go.Proofs.YtbkbhkgkfolalaaGreatDoor.PbN
open ValM LexM ExM ShowM PrM NumM ParseM PbL PsM PbT PbP PsLx
set_option linter.unusedVariables false

/-! ### Without blanks -/
def nsp (l : List UInt8) : Nat := (l.filter (fun c => c != 32)).length
theorem nsp_append (a b : List UInt8) : nsp (a ++ b) = nsp a + nsp b := by simp [nsp]
theorem nsp_le (a : List UInt8) : nsp a ≤ a.length := List.length_filter_le _ _
theorem nsp_cons (c : UInt8) (a : List UInt8) (h : c = 32) : nsp (c :: a) = nsp a := by subst h; simp [nsp]
theorem nsp_cons_le (c : UInt8) (a : List UInt8) : nsp (c :: a) ≤ 1 + nsp a := by
  unfold nsp; rw [List.filter_cons]; split <;> simp <;> omega
theorem replace_blank : ∀ l : List UInt8, Lib.replaceK [32] [] (Lib.count l [32]) l = l.filter (fun c => c != 32)
  | [] => by
    rw [Lib.count_miss (by rfl)]; rfl
  | b :: l => by
    have ih := replace_blank l
    by_cases hb : b = 32
    · subst hb
      have hi : Lib.index (32 :: l) [32] = ((0 : Nat) : Int) := by simp [Lib.index]
      rw [Lib.count_hit (by simp) hi, Nat.add_comm, Lib.replaceK_hit _ _ _ _ 0 hi]
      simp only [List.length_cons, List.length_nil, Nat.zero_add, List.drop_succ_cons, List.drop_zero, List.take_zero, List.nil_append]
      rw [ih]; simp
    · have hp : List.isPrefixOf [32] (b :: l) = false := by simp [List.isPrefixOf]; exact fun e => hb e.symm
      have hix : Lib.index (b :: l) [32] = if Lib.index l [32] == -1 then -1 else Lib.index l [32] + 1 := by rw [Lib.index, hp]; simp
      have hf : (b :: l).filter (fun c => c != 32) = b :: l.filter (fun c => c != 32) := by rw [List.filter_cons, if_pos (by simp [hb])]
      by_cases hm : Lib.index l [32] = -1
      · rw [hm] at hix
        rw [Lib.count_miss hm] at ih
        rw [Lib.count_miss (by rw [hix]; rfl), hf, ← ih]; rfl
      · obtain ⟨i, hi⟩ : ∃ i : Nat, Lib.index l [32] = i := ⟨(Lib.index l [32]).toNat, by have := Lib.index_ge l [32]; omega⟩
        have hi2 : Lib.index (b :: l) [32] = ((i + 1 : Nat) : Int) := by
          rw [hix, if_neg (by simp [hm]), hi]; omega
        rw [Lib.count_hit (by simp) hi, Nat.add_comm, Lib.replaceK_hit _ _ _ _ i hi] at ih
        rw [Lib.count_hit (by simp) hi2, Nat.add_comm, Lib.replaceK_hit _ _ _ _ (i + 1) hi2, hf, ← ih]
        simp
theorem replaceAll_blank (l : List UInt8) : (Lib.replaceAll l [32] []).length = nsp l := by
  have h : Lib.replaceAll l [32] [] = l.filter (fun c => c != 32) := by
    unfold Lib.replaceAll Lib.replace Lib.replaceNum
    rw [if_neg (by decide), if_pos (.inl (by decide))]
    exact replace_blank l
  rw [h]; rfl

/-! ### The tokens of a notation are no shorter -/
def sumB (bs : List B) : Nat := (bs.map fun b => b.2.1.length).sum
theorem sumB_append (a b : List B) : sumB (a ++ b) = sumB a + sumB b := by simp [sumB]
theorem sumB_cons (x : B) (b : List B) : sumB (x :: b) = x.2.1.length + sumB b := by simp [sumB]
theorem sumB_nil : sumB [] = 0 := rfl
theorem sg_len (s : List UInt8) : (sg s).2.1.length = s.length := rfl
theorem sumB_br (p op : Int) (bs : List B) : sumB (brB p (op, bs)) = sumB bs + if precF op < p then 2 else 0 := by
  unfold brB
  split
  · rw [sumB_cons, sumB_append, sumB_cons, sumB_nil, sg_len, sg_len]; simp; omega
  · rfl
theorem nsp_br {p op : Int} {l : List UInt8} {bs : List B} (h : nsp l ≤ sumB bs) : nsp (br p (op, l)) ≤ sumB (brB p (op, bs)) := by
  rw [sumB_br]
  unfold br
  split
  · have h1 := nsp_cons_le 40 (l ++ [41])
    rw [nsp_append] at h1
    have h2 := nsp_le [41]
    simp at h2 ⊢
    omega
  · exact h
theorem nsp_commas : ∀ l : List Ex, (∀ x ∈ l, nsp (Ex.txt x) ≤ sumB (Ex.bt x)) → nsp (commas (l.map Ex.txt)) ≤ sumB (commasB (l.map Ex.bt))
  | [], _ => Nat.le_refl _
  | [x], h => h x (by simp)
  | x :: y :: r, h => by
    have ih := nsp_commas (y :: r) fun z hz => h z (by simp only [List.mem_cons] at hz ⊢; exact .inr hz)
    have h1 := h x (by simp)
    show nsp (Ex.txt x ++ (44 :: 32 :: commas ((y :: r).map Ex.txt))) ≤ sumB (Ex.bt x ++ (sg [44] :: commasB ((y :: r).map Ex.bt)))
    have h2 := nsp_cons_le 44 (32 :: commas ((y :: r).map Ex.txt))
    rw [nsp_cons 32 _ rfl] at h2
    rw [nsp_append, sumB_append, sumB_cons, sg_len]
    simp only [List.length_cons, List.length_nil]
    omega
theorem leaf_txt {d : Nd} (h : d.op = 1 ∨ d.op = 2) (hv : vOk d = true) (hn : nmOk d = true) (ts : List (Int × List UInt8)) : txtF d ts = (leafB d).2.1 := by
  unfold txtF leafB
  by_cases h1 : d.op = 1
  · rw [if_pos h1, if_pos h1]
    obtain ⟨_, ⟨hk, g0, g1, hs⟩ | ⟨hk, g, hs⟩ | ⟨hk, g, g1, g2⟩⟩ := con_nd h1 hv hn
    · rw [if_pos hk, hk]; rfl
    · rw [if_neg (by omega), if_pos hk, hk]; rfl
    · rw [if_neg (by omega), if_neg (by omega), hk]; rfl
  · rw [if_neg h1, if_pos (by omega), if_neg h1]; rfl
theorem op_len (op : Int) : (opB op).2.1.length = (signF op).length := by rw [op_s]
theorem nsp_txt : ∀ x : Ex, x.okN → nsp (Ex.txt x) ≤ sumB (Ex.bt x) := by
  refine Ex.ind fun d l ih => ?_
  intro hok
  obtain ⟨h0, hl⟩ := (okN_mk d l).1 hok
  obtain ⟨ho1, ho2, ha, hv, hn⟩ := node_ok h0
  have ih' : ∀ x ∈ l, nsp (Ex.txt x) ≤ sumB (Ex.bt x) := fun x hx => ih x hx (hl x hx)
  have hsg := nsp_le (signF d.op)
  rw [txt_mk, bt_mk]
  unfold btF
  by_cases hlf : d.op = 1 ∨ d.op = 2
  · rw [if_pos hlf, leaf_txt hlf hv hn, sumB_cons, sumB_nil]; have := nsp_le (leafB d).2.1; omega
  rw [if_neg hlf]
  have e1 : (txtL l).map (·.2) = l.map Ex.txt := by rw [txtL_map, List.map_map]; rfl
  have e2 : (btL l).map (·.2) = l.map Ex.bt := by rw [btL_map, List.map_map]; rfl
  unfold txtF
  rw [if_neg (by omega), if_neg (by omega)]
  by_cases h6 : precF d.op = 6
  · rw [if_pos h6, if_pos h6, e1, e2, nsp_append, sumB_cons, sumB_cons, sumB_append, sumB_cons, sumB_nil, op_len, sg_len, sg_len]
    have h1 := nsp_cons_le 40 (commas (l.map Ex.txt) ++ [41])
    rw [nsp_append] at h1
    have h2 := nsp_le [41]
    have h3 := nsp_commas l ih'
    simp only [List.length_cons, List.length_nil] at h2 ⊢
    omega
  rw [if_neg h6, if_neg h6]
  by_cases h5 : precF d.op = 5
  · rw [if_pos h5, if_pos h5]
    have h34 : d.op = 3 ∨ d.op = 4 := by
      obtain h | h | h | h | h | h | h | h | h | h | h | h | h | h | h | h := ops (by omega : 3 ≤ d.op) (by omega)
      all_goals rw [h] at h5 ⊢
      all_goals first | decide | (exfalso; revert h5; decide)
    obtain ⟨x, rfl⟩ : ∃ x, l = [x] := by
      have : l.length = 1 := by rw [ha]; unfold arity; rcases h34 with h | h <;> rw [h] <;> rfl
      exact List.length_eq_one_iff.1 this
    have hb := nsp_br (p := 5) (op := x.d.op) (ih' x (by simp))
    rw [txtL_cons, btL_cons, sumB_cons, op_len]
    show nsp (if d.op = 4 then signF d.op ++ (32 :: br 5 (x.d.op, Ex.txt x)) else signF d.op ++ br 5 (x.d.op, Ex.txt x)) ≤ _ + sumB (brB 5 (x.d.op, Ex.bt x))
    split
    · rw [nsp_append, nsp_cons 32 _ rfl]; omega
    · rw [nsp_append]; omega
  · have h34 : d.op ≠ 3 ∧ d.op ≠ 4 ∧ d.op ≠ 17 ∧ d.op ≠ 18 := by
      refine ⟨?_, ?_, ?_, ?_⟩
      · intro h; rw [h] at h5; exact h5 (by decide)
      · intro h; rw [h] at h5; exact h5 (by decide)
      · intro h; rw [h] at h6; exact h6 (by decide)
      · intro h; rw [h] at h6; exact h6 (by decide)
    rw [if_neg h5, if_neg h34.2.1, if_neg h5]
    obtain ⟨x, y, rfl⟩ : ∃ x y, l = [x, y] := by
      have : l.length = 2 := by rw [ha]; unfold arity; rw [if_neg (by omega), if_neg (by omega), if_neg (by omega)]
      exact len2 this
    have hx := nsp_br (p := leftF d.op) (op := x.d.op) (ih' x (by simp))
    have hy := nsp_br (p := precF d.op + 1) (op := y.d.op) (ih' y (by simp))
    rw [txtL_cons, btL_cons, txtL_cons, btL_cons]
    show nsp (br (leftF d.op) (x.d.op, Ex.txt x) ++ (32 :: (signF d.op ++ (32 :: br (precF d.op + 1) (y.d.op, Ex.txt y))))) ≤ sumB (brB (leftF d.op) (x.d.op, Ex.bt x) ++ (opB d.op :: brB (precF d.op + 1) (y.d.op, Ex.bt y)))
    rw [nsp_append, nsp_cons 32 _ rfl, nsp_append, nsp_cons 32 _ rfl, sumB_append, sumB_cons, op_len]
    omega

/-! ### What a token is worth -/
def Wt (t : Tk) : Prop := (t.kind = 1 → t.vk = 1 ∧ (Lib.itoa t.n).length ≤ t.s.length) ∧ (t.kind = 3 → t.vk = 3 ∧ (quoteL t.t).length ≤ t.s.length)
theorem dec_lt : ∀ (l : List UInt8) (acc u : Nat), Lib.decFrom acc l = some u → u < (acc + 1) * 10 ^ l.length
  | [], acc, u, h => by simp [Lib.decFrom] at h; subst h; simp
  | b :: r, acc, u, h => by
    unfold Lib.decFrom at h
    cases hd : Lib.digitVal b with
    | none => rw [hd] at h; cases h
    | some d =>
      rw [hd] at h
      have ih := dec_lt r _ u h
      have hd9 := (Lib.digitVal_eq hd)
      have hd' : d ≤ 9 := by omega
      rw [List.length_cons, Nat.pow_succ]
      have h1 : (acc * 10 + d + 1) * 10 ^ r.length ≤ ((acc + 1) * 10) * 10 ^ r.length := Nat.mul_le_mul_right _ (by omega)
      have h2 : (acc + 1) * (10 ^ r.length * 10) = ((acc + 1) * 10) * 10 ^ r.length := by rw [Nat.mul_comm (10 ^ r.length) 10, Nat.mul_assoc]
      omega
theorem nd_le : ∀ (k u : Nat), u < 10 ^ (k + 1) → Lib.nDigits u ≤ k + 1
  | 0, u, h => by rw [Lib.nDigits_small (by simpa using h)]; exact Nat.le_refl _
  | k + 1, u, h => by
    by_cases g : u < 10
    · rw [Lib.nDigits_small g]; omega
    · rw [Lib.nDigits_big g]
      have := nd_le k (u / 10) (by rw [Nat.pow_succ] at h; omega)
      omega
theorem itoa_le {d : List UInt8} {n : Int} (hd : d.all digB = true) (h : Lib.atoiAll d = .ok n) (hn : n ≤ 1099511627776) : (Lib.itoa n).length ≤ d.length := by
  rcases Nat.lt_or_ge 18 d.length with hl | hl
  · rcases Int.lt_or_le n (-1099511627776) with g | g
    · exfalso
      cases d with
      | nil => simp at hl
      | cons c r =>
        rw [List.all_cons, Bool.and_eq_true] at hd
        have hc : 48 ≤ c.toNat := by have := hd.1; unfold digB at this; simp only [Bool.and_eq_true, decide_eq_true_eq] at this; exact this.1
        unfold Lib.atoiAll at h
        simp only at h
        rw [if_neg (by omega : ¬ (c.toNat = 43 ∨ c.toNat = 45))] at h
        cases hp : Lib.parseMag (c :: r) with
        | «syntax» => rw [hp] at h; cases h
        | range => rw [hp] at h; cases h
        | ok u =>
          rw [hp] at h
          simp only at h
          split at h
          · cases h
          · split at h
            · cases h
            · rw [if_neg (by omega)] at h; injection h with h; omega
    · have := itoa_short n g hn; omega
  · rw [Lib.atoiAll_short d hl] at h
    cases d with
    | nil => simp [Lib.atoi, Lib.NumEnd.ofOption] at h
    | cons c r =>
      rw [List.all_cons, Bool.and_eq_true] at hd
      have hc : 48 ≤ c.toNat := by have := hd.1; unfold digB at this; simp only [Bool.and_eq_true, decide_eq_true_eq] at this; exact this.1
      have h45 : (c == 45) = false := by rw [beq_eq_false_iff_ne]; intro e; subst e; exact absurd hc (by decide)
      have h43 : (c == 43) = false := by rw [beq_eq_false_iff_ne]; intro e; subst e; exact absurd hc (by decide)
      have ha : Lib.atoi (c :: r) = (Lib.decFrom 0 (c :: r)).map fun (m : Nat) => (m : Int) := by
        show (if c == 45 then _ else if c == 43 then _ else (Lib.decNat (c :: r)).map fun (m : Nat) => (m : Int)) = _
        rw [h45, h43]; rfl
      rw [ha] at h
      cases hu : Lib.decFrom 0 (c :: r) with
      | none => rw [hu] at h; simp [Lib.NumEnd.ofOption] at h
      | some u =>
        rw [hu] at h
        simp [Lib.NumEnd.ofOption] at h
        have h1 := dec_lt _ _ _ hu
        rw [Nat.zero_add, Nat.one_mul, List.length_cons] at h1
        have h2 := nd_le _ _ h1
        have e : Lib.itoa n = Lib.decDigits u := by unfold Lib.itoa; rw [if_neg (by omega)]; congr 1; omega
        rw [e, Lib.decDigits_length, List.length_cons]; exact h2
theorem quoF_worth : ∀ (l : List UInt8) (m : Nat) (t : List UInt8), quoF l = some (m, t) → (escL t).length + 1 ≤ m
  | [], m, t, h => by simp [quoF] at h
  | [c], m, t, h => by
    unfold quoF at h
    split at h
    · simp only [Option.some.injEq, Prod.mk.injEq] at h; obtain ⟨rfl, rfl⟩ := h; simp [escL]
    · cases h
  | c :: d :: r, m, t, h => by
    unfold quoF at h
    split at h
    · simp only [Option.some.injEq, Prod.mk.injEq] at h; obtain ⟨rfl, rfl⟩ := h; simp [escL]
    · rename_i h34
      split at h
      · cases h
      · split at h
        · split at h
          · obtain ⟨⟨m', t'⟩, h', hx⟩ := Option.map_eq_some_iff.1 h
            simp only [Prod.mk.injEq] at hx; obtain ⟨rfl, rfl⟩ := hx
            have := quoF_worth r m' t' h'
            have he : escL (d :: t') = (if d = 34 ∨ d = 92 then [92, d] else [d]) ++ escL t' := by unfold escL; rw [List.flatMap_cons]
            rw [he, List.length_append]
            split <;> simp <;> omega
          · cases h
        · rename_i h92
          obtain ⟨⟨m', t'⟩, h', hx⟩ := Option.map_eq_some_iff.1 h
          simp only [Prod.mk.injEq] at hx; obtain ⟨rfl, rfl⟩ := hx
          have := quoF_worth (d :: r) m' t' h'
          have he : escL (c :: t') = (if c = 34 ∨ c = 92 then [92, c] else [c]) ++ escL t' := by unfold escL; rw [List.flatMap_cons]
          rw [he, List.length_append, if_neg (fun g => g.elim h34 h92)]
          simp; omega
theorem tw_allp (p : UInt8 → Bool) : ∀ l : List UInt8, (l.takeWhile p).all p = true
  | [] => rfl
  | c :: l => by
    rw [List.takeWhile_cons]
    split
    · rename_i h; rw [List.all_cons, h, tw_allp p l]; rfl
    · rfl
theorem head_worth {c : UInt8} {r : List UInt8} {T : Tok} (p : Nat) (h : firstF (c :: r) = .tok T) : Wt (mk T p (c :: r)) := by
  have hl := first_len h
  have hsl : (mk T p (c :: r)).s.length = T.len := by show ((c :: r).take T.len).length = _; rw [List.length_take]; omega
  rw [first_cons] at h
  unfold Wt
  rw [hsl]
  show (T.kind = 1 → T.vk = 1 ∧ (Lib.itoa T.n).length ≤ T.len) ∧ (T.kind = 3 → T.vk = 3 ∧ (quoteL T.t).length ≤ T.len)
  split at h
  · unfold numT at h
    split at h
    · cases h
    · split at h
      · rename_i n hn
        split at h
        · cases h
        · injection h with h; subst h
          rename_i hn2
          exact ⟨fun _ => ⟨rfl, itoa_le (n := n) (tw_allp _ _) hn (by omega)⟩, fun g => absurd g (by show ¬ (1 : Int) = 3; decide)⟩
      · cases h
  · split at h
    · obtain ⟨rfl, _⟩ := wordT_tok h
      exact ⟨fun g => absurd g (by show ¬ (2 : Int) = 1; decide), fun g => absurd g (by show ¬ (2 : Int) = 3; decide)⟩
    · split at h
      · obtain ⟨m, u, h1, h2, rfl⟩ := quoT_tok h
        have := quoF_worth _ _ _ h1
        refine ⟨fun g => absurd g (by show ¬ (3 : Int) = 1; decide), fun _ => ⟨rfl, ?_⟩⟩
        unfold quoteL; simp; omega
      · have hT : T.kind = 4 := by
          unfold sgnT at h
          split at h
          · injection h with h; subst h; rfl
          · split at h
            · injection h with h; subst h; rfl
            · cases h
        exact ⟨fun g => by omega, fun g => by omega⟩
def sumT (ts : List Tk) : Nat := (ts.map fun t => t.s.length).sum
theorem sumT_cons (t : Tk) (ts : List Tk) : sumT (t :: ts) = t.s.length + sumT ts := by simp [sumT]
theorem tok_worth (l : List UInt8) (p : Nat) : ∀ ts, tokens l p = .ok ts → (∀ t ∈ ts, Wt t) ∧ sumT ts ≤ l.length := by
  refine tokens_ind (M := fun l p r => ∀ ts, r = .ok ts → (∀ t ∈ ts, Wt t) ∧ sumT ts ≤ l.length) ?_ ?_ ?_ ?_ l.length l p (Nat.le_refl _)
  · intro p ts h; injection h with h; subst h; exact ⟨fun t ht => by simp at ht, Nat.le_refl _⟩
  · intro r p ih ts h
    obtain ⟨h1, h2⟩ := ih ts h
    exact ⟨h1, by simp; omega⟩
  · intro c r p e _ _ ts h; cases h
  · intro c r p T hc hT ih ts h
    cases hr : tokens ((c :: r).drop T.len) (p + T.len) with
    | bad q e => rw [hr] at h; cases h
    | ok us =>
      rw [hr] at h
      injection h with h; subst h
      obtain ⟨h1, h2⟩ := ih us hr
      have hl := first_len hT
      refine ⟨fun t ht => ?_, ?_⟩
      · rcases List.mem_cons.1 ht with rfl | ht
        · exact head_worth p hT
        · exact h1 t ht
      · have hsl : (mk T p (c :: r)).s.length = T.len := by show ((c :: r).take T.len).length = _; rw [List.length_take]; omega
        rw [sumT_cons, hsl]
        rw [List.length_drop] at h2
        omega

/-! ### What is read is no shorter than its notation -/
def W (q : Nat) (x : Ex) : Nat := sumB (brB (q : Int) (x.d.op, Ex.bt x))
def C (l : List Ex) : Nat := (l.map fun x => sumB (Ex.bt x) + 1).sum
theorem C_append (a b : List Ex) : C (a ++ b) = C a + C b := by simp [C]
theorem C_one (x : Ex) : C [x] = sumB (Ex.bt x) + 1 := by simp [C]
theorem W_mono {q q' : Nat} (h : q ≤ q') (x : Ex) : W q x ≤ W q' x := by
  unfold W; rw [sumB_br, sumB_br]
  split
  · rw [if_pos (by omega)]; exact Nat.le_refl _
  · omega
theorem W_base (q : Nat) (x : Ex) : sumB (Ex.bt x) ≤ W q x ∧ W q x ≤ sumB (Ex.bt x) + 2 := by
  unfold W; rw [sumB_br]; split <;> omega
theorem prec_nonneg (op : Nat) (h : op < 19) : 0 ≤ precF (op : Int) := by
  obtain rfl | rfl | rfl | h3 : op = 0 ∨ op = 1 ∨ op = 2 ∨ 3 ≤ op := by omega
  · decide
  · decide
  · decide
  · obtain h' | h' | h' | h' | h' | h' | h' | h' | h' | h' | h' | h' | h' | h' | h' | h' := opsN h3 h
    all_goals subst h'; decide
theorem opAt_some {q op : Nat} {s : List UInt8} (h : opAt q s = some op) : 3 ≤ op ∧ op < 19 ∧ precF (op : Int) = (q : Int) ∧ signF (op : Int) = s := by
  unfold opAt at h
  have h1 := List.find?_some h
  have h2 := List.mem_of_find?_eq_some h
  rw [List.mem_range] at h2
  simp only [Bool.and_eq_true, decide_eq_true_eq] at h1
  exact ⟨h1.1.1, h2, h1.1.2, h1.2⟩
theorem bt_two {op q : Nat} {x y : Ex} (h3 : 3 ≤ op) (hp : precF (op : Int) = (q : Int)) (hq : q < 5) : sumB (Ex.bt (opN op [x, y])) = W (if q = 2 then 3 else q) x + (signF (op : Int)).length + W (q + 1) y := by
  unfold opN
  rw [bt_mk]
  unfold btF
  rw [if_neg (by simp only; omega), if_neg (by simp only; omega), if_neg (by simp only; omega), btL_cons, btL_cons]
  show sumB (brB (leftF (op : Int)) (x.d.op, Ex.bt x) ++ (opB (op : Int) :: brB (precF (op : Int) + 1) (y.d.op, Ex.bt y))) = _
  rw [sumB_append, sumB_cons, op_len]
  have e : leftF (op : Int) = ((if q = 2 then 3 else q : Nat) : Int) := by
    unfold leftF; rw [hp]
    split
    · rename_i h; rw [if_pos (by omega)]; omega
    · rename_i h; rw [if_neg (by omega)]
  rw [e, hp]
  unfold W
  have e2 : ((q : Int) + 1) = ((q + 1 : Nat) : Int) := by omega
  rw [e2]; omega
theorem W_two {op q : Nat} {x y : Ex} (h3 : 3 ≤ op) (hp : precF (op : Int) = (q : Int)) (hq : q < 5) : W q (opN op [x, y]) = W (if q = 2 then 3 else q) x + (signF (op : Int)).length + W (q + 1) y := by
  rw [← bt_two h3 hp hq]
  unfold W; rw [sumB_br, if_neg]
  · omega
  · show ¬ precF (op : Int) < _; omega
theorem W_one {op : Nat} {x : Ex} (h3 : 3 ≤ op) (hp : precF (op : Int) = 5) : W 5 (opN op [x]) = (signF (op : Int)).length + W 5 x := by
  unfold W; rw [sumB_br, if_neg (by show ¬ precF (op : Int) < _; omega)]
  unfold opN
  rw [bt_mk]
  unfold btF
  rw [if_neg (by simp only; omega), if_neg (by simp only; omega), if_pos (by simp only; omega), btL_cons]
  show sumB (opB (op : Int) :: brB 5 (x.d.op, Ex.bt x)) + 0 = _
  rw [sumB_cons, op_len]; rfl
theorem commas_sum : ∀ l : List Ex, l ≠ [] → sumB (commasB (l.map Ex.bt)) + 1 = C l
  | [], h => absurd rfl h
  | [x], _ => by rw [C_one]; rfl
  | x :: y :: r, _ => by
    have ih := commas_sum (y :: r) (by simp)
    have e : C (x :: y :: r) = sumB (Ex.bt x) + 1 + C (y :: r) := by
      show C ([x] ++ (y :: r)) = _; rw [C_append, C_one]
    rw [e, ← ih]
    show sumB (Ex.bt x ++ (sg [44] :: commasB ((y :: r).map Ex.bt))) + 1 = _
    rw [sumB_append, sumB_cons, sg_len]
    simp only [List.length_cons, List.length_nil]; omega
theorem W_call {op : Nat} {l : List Ex} (h3 : 3 ≤ op) (hp : precF (op : Int) = 6) (hl : l ≠ []) : W 5 (opN op l) = (signF (op : Int)).length + 1 + C l := by
  have hc := commas_sum l hl
  unfold W; rw [sumB_br, if_neg (by show ¬ precF (op : Int) < _; omega)]
  unfold opN
  rw [bt_mk]
  unfold btF
  have hb2 : (btL l).map (·.2) = l.map Ex.bt := by rw [btL_map, List.map_map]; rfl
  rw [if_neg (by simp only; omega), if_pos (by simp only; omega), hb2]
  rw [sumB_cons, sumB_cons, sumB_append, sumB_cons, sumB_nil, sg_len, sg_len]
  show (opB (op : Int)).2.1.length + _ + 0 = _
  rw [op_len]
  simp only [List.length_cons, List.length_nil]; omega
theorem leaf_W {t : Tk} {x : Ex} (hw : Wt t) (h : leafN t = some x) : W 5 x ≤ t.s.length := by
  unfold leafN at h
  have one : ∀ d : Nd, (d.op = 1 ∨ d.op = 2) → (leafB d).2.1.length ≤ t.s.length → W 5 (.mk d []) ≤ t.s.length := fun d hd hle => by
    unfold W; rw [sumB_br, if_neg (by show ¬ precF d.op < _; rcases hd with h | h <;> rw [h] <;> decide), bt_mk]
    unfold btF
    rw [if_pos hd, sumB_cons, sumB_nil]; omega
  split at h
  · rename_i hk
    injection h with h; subst h
    refine one _ (.inl rfl) ?_
    rcases hk with hk | hk
    · obtain ⟨h1, h2⟩ := hw.1 hk
      unfold leafB; rw [if_pos rfl, if_pos h1]; exact h2
    · obtain ⟨h1, h2⟩ := hw.2 hk
      unfold leafB; rw [if_pos rfl, if_neg (by simp only; omega), if_neg (by simp only; omega)]; exact h2
  · split at h
    · rename_i hs
      injection h with h; subst h
      refine one _ (.inl rfl) ?_
      rw [hs]; decide
    · split at h
      · rename_i hs
        injection h with h; subst h
        refine one _ (.inl rfl) ?_
        rw [hs]; decide
      · split at h
        · injection h with h; subst h
          refine one _ (.inr rfl) ?_
          show t.s.toArray.toList.length ≤ _
          simp
        · cases h
/-- What a reading is worth. -/
def Good : Job → List Tk → List Ex → List Tk → Prop
  | .form q, ts, L, r => ∃ x, L = [x] ∧ W q x + sumT r ≤ sumT ts
  | .loop q x, ts, L, r => ∃ y, L = [y] ∧ W q y + sumT r ≤ W (if q = 2 then 3 else q) x + sumT ts
  | .list n acc, ts, L, r => L ≠ [] ∧ C L + sumT r ≤ C acc + sumT ts
def Low : Job → Prop
  | .form q => q ≤ 5
  | .loop q _ => q ≤ 4
  | .list _ _ => True
theorem next_sum {s : List UInt8} {r : List Tk} (h : isNext s r = true) : sumT r = s.length + sumT r.tail ∧ ∀ t ∈ r.tail, t ∈ r := by
  cases r with
  | nil => simp [isNext] at h
  | cons t r =>
    simp [isNext] at h
    exact ⟨by rw [sumT_cons, h]; rfl, fun u hu => List.mem_cons_of_mem _ hu⟩
theorem run_worth : ∀ (f : Nat) (j : Job) (ts : List Tk) (L : List Ex) (r : List Tk), Low j → (∀ t ∈ ts, Wt t) → run f j ts = .ok L r → (∀ t ∈ r, t ∈ ts) ∧ Good j ts L r
  | 0, j, ts, L, r, _, _, h => by simp [run] at h
  | f + 1, .form q, ts, L, r, hq, hw, h => by
    have hq : q ≤ 5 := hq
    unfold run at h
    split at h
    · rename_i h5
      subst h5
      cases ts with
      | nil => cases h
      | cons t r0 =>
        simp only at h
        have hw0 : ∀ u ∈ r0, Wt u := fun u hu => hw u (List.mem_cons_of_mem _ hu)
        split at h
        · rename_i op hop
          obtain ⟨h3, h19, hp, hs⟩ := opAt_some hop
          cases hr : run f (.form 5) r0 with
          | bad _ => rw [hr] at h; cases h
          | tired => rw [hr] at h; cases h
          | ok L' r' =>
            rw [hr] at h
            simp only [wrap, Out.ok.injEq] at h
            obtain ⟨rfl, rfl⟩ := h
            obtain ⟨hm, x, rfl, hx⟩ := run_worth f (.form 5) _ _ _ (Nat.le_refl 5) hw0 hr
            refine ⟨fun u hu => List.mem_cons_of_mem _ (hm u hu), _, rfl, ?_⟩
            rw [W_one h3 hp, hs, sumT_cons]; omega
        · split at h
          · rename_i hpar
            obtain ⟨hm, hne, hC⟩ := run_worth f (.list 1 []) _ _ _ trivial hw0 h
            cases f with
            | zero => simp [run] at h
            | succ f =>
              unfold run at h
              cases hr : run f (.form 0) r0 with
              | bad _ => rw [hr] at h; cases h
              | tired => rw [hr] at h; cases h
              | ok L' r' =>
                rw [hr] at h
                cases L' with
                | nil => simp at h; exact absurd h.1 hne
                | cons x L' =>
                  simp only [List.length_nil, Nat.zero_add, Nat.lt_irrefl, if_false, List.nil_append] at h
                  split at h
                  · simp only [Out.ok.injEq] at h
                    obtain ⟨rfl, rfl⟩ := h
                    refine ⟨fun u hu => List.mem_cons_of_mem _ (hm u hu), x, rfl, ?_⟩
                    rw [C_one] at hC
                    have := (W_base 5 x).2
                    rw [sumT_cons, hpar]
                    simp only [List.length_cons, List.length_nil]
                    have e0 : C [] = 0 := rfl
                    omega
                  · cases h
          · split at h
            · rename_i op hop
              obtain ⟨h3, h19, hp, hs⟩ := opAt_some hop
              split at h
              · rename_i hnx
                obtain ⟨hn1, hn2⟩ := next_sum hnx
                cases hr : run f (.list (arity op) []) r0.tail with
                | bad _ => rw [hr] at h; cases h
                | tired => rw [hr] at h; cases h
                | ok L' r' =>
                  rw [hr] at h
                  simp only [wrap, Out.ok.injEq] at h
                  obtain ⟨rfl, rfl⟩ := h
                  obtain ⟨hm, hne, hC⟩ := run_worth f (.list (arity op) []) _ _ _ trivial (fun u hu => hw0 u (hn2 u hu)) hr
                  refine ⟨fun u hu => List.mem_cons_of_mem _ (hn2 u (hm u hu)), _, rfl, ?_⟩
                  rw [W_call h3 hp hne, hs, sumT_cons, hn1]
                  simp only [List.length_cons, List.length_nil]
                  have e0 : C [] = 0 := rfl
                  omega
              · cases h
            · split at h
              · rename_i x hx
                simp only [Out.ok.injEq] at h
                obtain ⟨rfl, rfl⟩ := h
                have := leaf_W (hw t (by simp)) hx
                exact ⟨fun u hu => List.mem_cons_of_mem _ hu, x, rfl, by rw [sumT_cons]; omega⟩
              · cases h
    · rename_i h5
      cases hr : run f (.form (q + 1)) ts with
      | bad _ => rw [hr] at h; cases h
      | tired => rw [hr] at h; cases h
      | ok L' r' =>
        rw [hr] at h
        obtain ⟨hm, x, rfl, hx⟩ := run_worth f (.form (q + 1)) _ _ _ (show q + 1 ≤ 5 by omega) hw hr
        simp only at h
        obtain ⟨hm2, y, rfl, hy⟩ := run_worth f (.loop q x) _ _ _ (show q ≤ 4 by omega) (fun u hu => hw u (hm u hu)) h
        refine ⟨fun u hu => hm u (hm2 u hu), y, rfl, ?_⟩
        have : W (if q = 2 then 3 else q) x ≤ W (q + 1) x := W_mono (by split <;> omega) x
        omega
  | f + 1, .loop q x, ts, L, r, hq, hw, h => by
    have hq : q ≤ 4 := hq
    have hWx : W q x ≤ W (if q = 2 then 3 else q) x := W_mono (by split <;> omega) x
    unfold run at h
    cases ts with
    | nil =>
      simp only [Out.ok.injEq] at h
      obtain ⟨rfl, rfl⟩ := h
      exact ⟨fun u hu => hu, x, rfl, by omega⟩
    | cons t r0 =>
      simp only at h
      have hw0 : ∀ u ∈ r0, Wt u := fun u hu => hw u (List.mem_cons_of_mem _ hu)
      split at h
      · simp only [Out.ok.injEq] at h
        obtain ⟨rfl, rfl⟩ := h
        exact ⟨fun u hu => hu, x, rfl, by omega⟩
      · rename_i op hop
        obtain ⟨h3, h19, hp, hs⟩ := opAt_some hop
        cases hr : run f (.form (q + 1)) r0 with
        | bad _ => rw [hr] at h; cases h
        | tired => rw [hr] at h; cases h
        | ok L' r' =>
          rw [hr] at h
          obtain ⟨hm, y, rfl, hy⟩ := run_worth f (.form (q + 1)) _ _ _ (show q + 1 ≤ 5 by omega) hw0 hr
          simp only at h
          have hW2 := W_two (x := x) (y := y) h3 hp (by omega)
          rw [hs] at hW2
          split at h
          · rename_i h2
            simp only [Out.ok.injEq] at h
            obtain ⟨rfl, rfl⟩ := h
            refine ⟨fun u hu => List.mem_cons_of_mem _ (hm u hu), _, rfl, ?_⟩
            rw [sumT_cons]; omega
          · rename_i h2
            obtain ⟨hm2, z, rfl, hz⟩ := run_worth f (.loop q (opN op [x, y])) _ _ _ (show q ≤ 4 by omega) (fun u hu => hw0 u (hm u hu)) h
            refine ⟨fun u hu => List.mem_cons_of_mem _ (hm u (hm2 u hu)), z, rfl, ?_⟩
            rw [if_neg h2] at hz hW2 ⊢
            rw [sumT_cons]; omega
  | f + 1, .list n acc, ts, L, r, _, hw, h => by
    unfold run at h
    cases hr : run f (.form 0) ts with
    | bad _ => rw [hr] at h; cases h
    | tired => rw [hr] at h; cases h
    | ok L' r' =>
      rw [hr] at h
      obtain ⟨hm, x, rfl, hx⟩ := run_worth f (.form 0) _ _ _ (Nat.zero_le 5) hw hr
      have hb := (W_base 0 x).1
      simp only at h
      split at h
      · split at h
        · rename_i hnx
          obtain ⟨hn1, hn2⟩ := next_sum hnx
          obtain ⟨hm2, hne, hC⟩ := run_worth f (.list n (acc ++ [x])) _ _ _ trivial (fun u hu => hw u (hm u (hn2 u hu))) h
          refine ⟨fun u hu => hm u (hn2 u (hm2 u hu)), hne, ?_⟩
          rw [C_append, C_one] at hC
          simp only [List.length_cons, List.length_nil] at hn1
          omega
        · cases h
      · split at h
        · rename_i hnx
          obtain ⟨hn1, hn2⟩ := next_sum hnx
          simp only [Out.ok.injEq] at h
          obtain ⟨rfl, rfl⟩ := h
          refine ⟨fun u hu => hm u (hn2 u hu), by simp, ?_⟩
          rw [C_append, C_one]
          simp only [List.length_cons, List.length_nil] at hn1
          omega
        · cases h
/-- A formula's notation is no longer than what it was read from, but for blanks. -/
theorem read_len {l : List UInt8} {ts : List Tk} {x : Ex} {r : List Tk} (ht : tokens l 0 = .ok ts) (he : Ev (.form 0) ts (.ok [x] r)) (hok : x.okN) : nsp (Ex.txt x) ≤ l.length := by
  obtain ⟨hw, hs⟩ := tok_worth l 0 ts ht
  obtain ⟨_, f, hf⟩ := he
  obtain ⟨_, y, e, hy⟩ := run_worth f (.form 0) _ _ _ (Nat.zero_le 5) hw (hf f (Nat.le_refl _))
  injection e with e _
  subst e
  have h1 := nsp_txt x hok
  have h2 := (W_base 0 x).1
  omega
end Go.Proofs.YtbkbhkgkfolalaaGreatDoor.PbN
