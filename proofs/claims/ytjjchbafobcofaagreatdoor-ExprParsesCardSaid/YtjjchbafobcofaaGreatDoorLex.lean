/- Contract of lex.Tokens (chapter 3). -/
import Derived.Test.YtjjchbafobcofaaGreatDoorLexSign
import Derived.Laws.OwnMore
import Derived.OwnWalk
namespace Go.Proofs.YtjjchbafobcofaaGreatDoor.Lex
open Go.RowKit
open LexM LexB LexT LexS Kit
set_option linter.unusedVariables false

theorem own_below {w w1 : World} {base : Nat} {e : TypeId} {size : Nat} {v : Value} {n : Nat} {xs : List Value} (h : w.ownsRow base e size v n xs) (hb : Below w.heap.size w w1) : w1.ownsRow base e size v n xs :=
  h.kept (row := none) ⟨hb.os, hb.tape, hb.output, hb.size, fun k hk _ => hb.block k hk⟩ (by cases hv : v.ownBlock <;> simp)
/-- The cells of a token. -/
def tkC (x : Tk) : List Value := [.int .i64 x.kind, .int .i64 x.pos, .string ⟨x.s.toArray⟩, .int .i64 x.vk, .int .i64 x.n, .string ⟨x.t.toArray⟩]
def tksC (l : List Tk) : List Value := l.flatMap tkC
theorem tksC_snoc (l : List Tk) (x : Tk) : tksC l ++ tkC x = tksC (l ++ [x]) := by unfold tksC; rw [List.flatMap_append]; simp
theorem tksC_len (l : List Tk) : (tksC l).length = l.length * 6 := by
  induction l with
  | nil => rfl
  | cons x l ih =>
    have : tksC (x :: l) = tkC x ++ tksC l := by unfold tksC; rw [List.flatMap_cons]
    rw [this, List.length_append, ih, List.length_cons]; show 6 + _ = _; omega

structure TInv (w : World) (s : ByteArray) (k : Nat) (acc : List Tk) (v : Value) (wr : World) : Prop where
  le : k ≤ s.size
  own : wr.ownsRow w.heap.size 42 6 v acc.length (tksC acc)
  is : fin [] (tokens s.data.toList 0) = fin acc (tokens (s.data.toList.drop k) k)
  below : Below w.heap.size w wr
  few : acc.length ≤ k

/-- What Tokens hands back. -/
def Out (l : List UInt8) (w : World) (x : Ending) (w' : World) : Prop :=
  ∃ v : Value, x = .returned (.tuple #[v, .int .i64 (lexR l).2.1, .int .i64 (lexR l).2.2]) ∧ w'.ownsRow w.heap.size 42 6 v (lexR l).1.length (tksC (lexR l).1) ∧ Below w.heap.size w w'

theorem Out.mk_ {l : List UInt8} {w w' : World} {v : Value} {a e : Int} {ts : List Tk} {p : Nat} (h : lexR l = (ts, p, e)) (ha : a = p) (ho : w'.ownsRow w.heap.size 42 6 v ts.length (tksC ts)) (hb : Below w.heap.size w w') : Out l w (.returned (.tuple #[v, .int .i64 a, .int .i64 e])) w' := by
  refine ⟨v, ?_, ?_, hb⟩
  · rw [h, ha]
  · rw [h]; exact ho

theorem drop_of (s : ByteArray) (k : Nat) : (s.extract k s.size).data.toList = s.data.toList.drop k := by
  rw [Lib.extract_data, List.take_of_length_le]
  rw [List.length_drop, len_size]
  omega
theorem infoTok : (Tryz.prog.info? 42).map (fun i => (i.zero, i.size, i.bytes)) = some (some (.agg #[.int .i64 0, .int .i64 0, .string ⟨#[]⟩, .int .i64 0, .int .i64 0, .string ⟨#[]⟩]), 6, 64) := by kernel_rfl

theorem TInv.space {w wr : World} {s : ByteArray} {k : Nat} {acc : List Tk} {v : Value} (h : TInv w s k acc v wr) (hk : k < s.size) (hc : s[k] = 32) : TInv w s (k + 1) acc v wr := by
  refine ⟨hk, h.own, ?_, h.below, by have := h.few; omega⟩
  rw [h.is, drop_cons s k hk, hc, tokens_space]
theorem TInv.bad {w wr : World} {s : ByteArray} {k : Nat} {acc : List Tk} {v : Value} {q : Int} (h : TInv w s k acc v wr) (hs : s.size ≤ 160) (hk : k < s.size) (hc : s[k] ≠ 32) (hf : firstF (s.data.toList.drop k) = .bad q) : lexR s.data.toList = ([], k, q) := by
  rw [lexR_of hs, h.is]
  rw [drop_cons s k hk] at hf ⊢
  rw [tokens_bad hc hf]; rfl
theorem TInv.end_ {w wr : World} {s : ByteArray} {k : Nat} {acc : List Tk} {v : Value} (h : TInv w s k acc v wr) (hs : s.size ≤ 160) (hk : ¬ k < s.size) : lexR s.data.toList = (acc, 0, 0) := by
  rw [lexR_of hs, h.is, List.drop_eq_nil_of_le (by rw [len_size]; omega)]
  show (acc ++ [], 0, 0) = _
  rw [List.append_nil]
theorem TInv.tok {w wr w3 : World} {s : ByteArray} {k : Nat} {acc : List Tk} {v v' : Value} {T : Tok} {u : ByteArray} (h : TInv w s k acc v wr) (hk : k < s.size) (hc : s[k] ≠ 32) (hf : firstF (s.data.toList.drop k) = .tok T) (hu : u.data.toList = (s.data.toList.drop k).take T.len)
    (ho : w3.ownsRow w.heap.size 42 6 v' (acc.length + 1) (tksC (acc ++ [LexM.mk T k (s.data.toList.drop k)]))) (hb : Below w.heap.size w w3) : TInv w s (k + u.size) (acc ++ [LexM.mk T k (s.data.toList.drop k)]) v' w3 := by
  have hl := first_len hf
  have hus : u.size = T.len := by
    rw [← len_size, hu, List.length_take]
    omega
  rw [List.length_drop, len_size] at hl
  refine ⟨by omega, by rw [List.length_append]; exact ho, ?_, hb, by have := h.few; simp; omega⟩
  rw [h.is]
  rw [drop_cons s k hk] at hf
  conv => lhs; rw [drop_cons s k hk, tokens_tok hc hf, ← drop_cons s k hk, List.drop_drop, fin_cons]
  rw [hus]
theorem u_len {s u : ByteArray} {k : Nat} {T : Tok} (hf : firstF (s.data.toList.drop k) = .tok T) (hu : u.data.toList = (s.data.toList.drop k).take T.len) : 1 ≤ u.size ∧ u.size ≤ s.size := by
  have hl := first_len hf
  have : u.size = T.len := by
    rw [← len_size, hu, List.length_take]; omega
  rw [List.length_drop, len_size] at hl
  omega
theorem tkC_mk {T : Tok} {k : Nat} {l : List UInt8} {kd vk n : Int} {u t : ByteArray} (h1 : T.kind = kd) (h2 : u.data.toList = l.take T.len) (h3 : T.vk = vk) (h4 : T.n = n) (h5 : t.data.toList = T.t) : [.int .i64 kd, .int .i64 (k : Int), .string u, .int .i64 vk, .int .i64 n, .string t] = tkC (LexM.mk T k l) := by
  unfold tkC LexM.mk
  simp only [h1, h3, h4, ← h2, ← h5]

set_option maxHeartbeats 1000000 in
set_option maxRecDepth 100000 in
theorem tokens_any (s : ByteArray) (w : World) (hs : s.size ≤ 140737488351232) (hv : Vars w) : Calls Tryz.prog 7 #[.string s] w (Out s.data.toList w) := by
  obtain ⟨i0, hi, hz0, hz1, hz2⟩ := info_parts infoTok
  by_cases hbig : 160 < s.size
  · have hR : lexR s.data.toList = ([], 0, 1) := lexR_long hbig
    have HR := Lib.hid hR
    clear hR
    go_enter Tryz.func7, Tryz.ntmps7
    go_wp2_with fail
    go_ret3
    exact Out.mk_ HR.out rfl (World.ownsRow_nil _ _ _ _) (Below.refl _ _)
  · have h0 : TInv w s 0 [] (.slice none 0 0) w := ⟨Nat.zero_le _, World.ownsRow_nil _ _ _ _, by rw [List.drop_zero], Below.refl _ _, Nat.le_refl _⟩
    have H0 := Lib.hid h0
    have HV := Lib.hid hv
    clear h0 hv
    go_enter Tryz.func7, Tryz.ntmps7
    go_wp2_with fail
    go_loopw [5, 6, 7, 8] (fun v i _ _ wr => ∃ (k : Nat) (acc : List Tk), i = .int .i64 k ∧ TInv w s k acc v wr) (fun _ i _ _ _ => s.size - (intOf i).toNat)
    case atStart => exact ⟨0, [], rfl, H0.out⟩
    case round =>
      obtain ⟨k, acc, rfl, hI⟩ := hrel
      have hle := hI.le
      have hfew := hI.few
      have HI := Lib.hid hI
      clear hI
      by_cases hlt : k < s.size
      · by_cases h32 : s[k] = 32
        · have t1 : ((s[k].toNat : Int) == 32) = true := by rw [h32]; rfl
          have hN := HI.out.space hlt h32
          have HN := Lib.hid hN
          clear hN h32
          go_wp2_with fail
          go_roundw
          case rel => exact ⟨k + 1, acc, by go_num, HN.out⟩
          case measure => simp [intOf]; omega
        · have t1 : ((s[k].toNat : Int) == 32) = false := by have := byte_is s[k] 32 (by decide); rw [show ((32 : Nat) : Int) = 32 from rfl] at this; rw [this]; exact decide_eq_false h32
          obtain ⟨kd, vk, n, e, u, t, ht, hc⟩ := first_any (s.extract k s.size) (by simp; omega) (by simp; omega)
          rw [drop_of] at ht
          have H32 := Lib.hid h32
          have HC := Lib.hid hc
          clear h32 hc
          cases hf : firstF (s.data.toList.drop k) with
          | bad q =>
            rw [hf] at ht
            obtain ⟨rfl, hq⟩ := ht
            have hR := HI.out.bad (by omega) hlt H32.out hf
            have HR := Lib.hid hR
            have t2 : (e != 0) = true := bne_iff_ne.2 hq
            clear hR hf hq
            go_wp2_with fail
            refine (HC.out _ (HV.out.below HI.out.below)).mono ?_; rintro x w1 ⟨rfl, hb1⟩
            go_wp2_with fail
            go_ret3
            exact Out.mk_ HR.out rfl (World.ownsRow_nil _ _ _ _) (HI.out.below.trans ((b_more hb1 _).mono HI.out.below.size))
          | tok T =>
            rw [hf] at ht
            obtain ⟨rfl, g1, g2, g3, g4, g5⟩ := ht
            obtain ⟨hu1, hu2⟩ := u_len hf g2
            have hcell := tkC_mk (k := k) g1 g2 g3 g4 g5
            have HF := Lib.hid hf
            have HG2 := Lib.hid g2
            have HCell := Lib.hid hcell
            clear hf g1 g2 g3 g4 g5 hcell
            go_wp2_with fail
            refine (HC.out _ (HV.out.below HI.out.below)).mono ?_; rintro x w1 ⟨rfl, hb1⟩
            have hown := own_below HI.out.own hb1
            have hlt1 := hown.lt
            have HL := Lib.hid hlt1
            have hbw : Below w.heap.size w w1 := HI.out.below.trans (hb1.mono HI.out.below.size)
            have hbs := hbw.size
            clear hlt1
            go_wp2_with (at_builtin; refine wpList_append_own _ rfl _ _ 32 rfl w.heap.size 42 i0 (.agg #[.int .i64 0, .int .i64 0, .string ⟨#[]⟩, .int .i64 0, .int .i64 0, .string ⟨#[]⟩]) 6 64 Tryz.underlying32 hi hz0 hz1 hz2 rfl (by decide) _ _ _ rfl ((hown.alloc _).alloc _) ⟨w1.heap.size + 1, 0, none⟩ 1 1 [.int .i64 kd, .int .i64 (k : Int), .string u, .int .i64 vk, .int .i64 n, .string t] rfl rfl ?c1 ?c2 ?c3 ?c4 ?c5 ?_)
            case c1 =>
              intro j y hj
              match j, hj with
              | 0, hj => simp at hj; subst hj; simp [Addr.add]
              | 1, hj => simp at hj; subst hj; simp [Addr.add]
              | 2, hj => simp at hj; subst hj; simp [Addr.add]
              | 3, hj => simp at hj; subst hj; simp [Addr.add]
              | 4, hj => simp at hj; subst hj; simp [Addr.add]
              | 5, hj => simp at hj; subst hj; simp [Addr.add]
              | j + 6, hj => simp at hj
            case c2 => intro y hy; simp at hy; rcases hy with rfl | rfl | rfl | rfl | rfl | rfl <;> rfl
            case c3 => unfold maxLen; omega
            case c4 => omega
            case c5 => simp; omega
            intro v' w3 hown3 hgrow _
            rw [HCell.out, tksC_snoc] at hown3
            have k2 : w3.cell? ⟨w1.heap.size, 2, none⟩ = some (.string u) := hgrow.cell (by simp) (fun e => by have := (HL.out _ e.symm).2; exact absurd this (Nat.lt_irrefl _))
            have hb3 : Below w.heap.size w w3 := ((hbw.alloc (by omega) _).alloc (by simp; omega) _).grown hgrow (by simp; omega) (fun g hg => (HL.out g hg).1)
            have hN := HI.out.tok hlt H32.out HF.out HG2.out hown3 hb3
            have HN := Lib.hid hN
            have HB3 := Lib.hid hb3
            clear hN hown3 hgrow hb3
            go_wp2
            go_roundw
            case rel => exact ⟨k + u.size, _, by go_num, HN.out⟩
            case measure => simp [intOf]; omega
      · have hR := HI.out.end_ (by omega) hlt
        have HR := Lib.hid hR
        clear hR
        go_wp2_with fail
        go_ret3
        exact Out.mk_ HR.out rfl HI.out.own HI.out.below

/-- Tokens, where its answer is known. -/
theorem tokens_is (s : ByteArray) {ts : List Tk} {p : Nat} {e : Int} (h : lexR s.data.toList = (ts, p, e)) (w : World) (hs : s.size ≤ 140737488351232) (hv : Vars w) :
    Calls Tryz.prog 7 #[.string s] w fun x w' => ∃ v : Value, x = .returned (.tuple #[v, .int .i64 p, .int .i64 e]) ∧ w'.ownsRow w.heap.size 42 6 v ts.length (tksC ts) ∧ Below w.heap.size w w' :=
  (tokens_any s w hs hv).mono fun x w' ⟨v, h1, h2, h3⟩ => ⟨v, by rw [h1, h], by rw [h] at h2; exact h2, h3⟩
/-- The three kinds of answers. -/
theorem lex_cases (l : List UInt8) : (∃ ts, l.length ≤ 160 ∧ tokens l 0 = .ok ts ∧ lexR l = (ts, 0, 0)) ∨ (160 < l.length ∧ lexR l = ([], 0, 1)) ∨
    (∃ p e ts, l.length ≤ 160 ∧ p < l.length ∧ (e = 1 ∨ e = 3 ∨ e = 7) ∧ lexR l = ([], p, e) ∧ lexR (l.take p) = (ts, 0, 0)) := by
  by_cases h : 160 < l.length
  · exact .inr (.inl ⟨h, lexR_long h⟩)
  · have hl : l.length ≤ 160 := by omega
    cases ht : tokens l 0 with
    | ok ts => exact .inl ⟨ts, hl, rfl, by rw [lexR_of hl, ht]; rfl⟩
    | bad p e =>
      obtain ⟨_, h2, h3, ts, h4⟩ := wrong l 0 p e ht
      refine .inr (.inr ⟨p, e, ts, hl, by omega, h3, by rw [lexR_of hl, ht]; rfl, ?_⟩)
      rw [Nat.sub_zero] at h4
      rw [lexR_of (by rw [List.length_take]; omega), h4]; rfl

theorem own_slice {w : World} {base : Nat} {e : TypeId} {size : Nat} {v : Value} {n : Nat} {xs : List Value} (h : w.ownsRow base e size v n xs) : ∃ A c, v = .slice A n c := by
  rcases h.2 with ⟨h1, h2⟩ | ⟨g, cap, cur, h1, _⟩
  · exact ⟨none, 0, by rw [h2]; exact h1⟩
  · exact ⟨some ⟨g, 0, none⟩, cap, h1⟩
theorem own_form {w : World} {base : Nat} {e : TypeId} {size : Nat} {v : Value} {n : Nat} {xs : List Value} (h : w.ownsRow base e size v n xs) (hn : 0 < n) :
    ∃ g cap, v = .slice (some ⟨g, 0, none⟩) n cap ∧ base ≤ g ∧ g < w.heap.size ∧ n ≤ cap ∧ cap ≤ maxLen ∧ ∀ j, j < n * size → w.cell? ⟨g, j, none⟩ = xs[j]? := by
  rcases h.2 with ⟨_, h2⟩ | ⟨g, cap, cur, h1, h2, h3, h4, h5, _⟩
  · omega
  · subst h1
    have hl := h.lt g rfl
    exact ⟨g, cap, rfl, h2, hl.2, h4, h5, fun j hj => h.cellAt j hj⟩
theorem name_ok {l : List UInt8} (h : nameE l = 0) : lexR l = ([⟨2, 0, l, 0, 0, []⟩], 0, 0) ∧ keyB l = false := by
  unfold nameE at h
  by_cases h1 : l = [] ∨ 10 < l.length
  · rw [if_pos h1] at h; exact absurd h (by decide)
  · rw [if_neg h1] at h
    by_cases h2 : nameB l = true ∧ keyB l = false
    · have hl : l.length ≤ 10 := by
        rcases Nat.lt_or_ge 10 l.length with g | g
        · exact absurd (.inr g) h1
        · exact g
      refine ⟨?_, h2.2⟩
      rw [lexR_of (by omega), name_tok h2.1 hl 0]; rfl
    · rw [if_neg h2] at h; exact absurd h (by decide)
theorem lex_few (l : List UInt8) : (lexR l).1.length ≤ l.length := by
  rcases lex_cases l with ⟨ts, h1, h2, h3⟩ | ⟨h1, h2⟩ | ⟨p, e, ts, h1, h2, h3, h4, _⟩
  · rw [h3]; exact few l 0 ts h2
  · rw [h2]; exact Nat.zero_le _
  · rw [h4]; exact Nat.zero_le _

theorem tkC_len (x : Tk) : (tkC x).length = 6 := rfl
theorem tksC_at (ts : List Tk) (k : Nat) (x : Tk) (us : List Tk) (h : ts.drop k = x :: us) (j : Nat) (hj : j < 6) : (tksC ts)[k * 6 + j]? = (tkC x)[j]? := by
  induction ts generalizing k with
  | nil => simp at h
  | cons y ts ih =>
    have e : tksC (y :: ts) = tkC y ++ tksC ts := by unfold tksC; rw [List.flatMap_cons]
    rw [e]
    cases k with
    | zero =>
      rw [List.drop_zero] at h
      injection h with h _
      subst h
      rw [Nat.zero_mul, Nat.zero_add, List.getElem?_append_left (by rw [tkC_len]; exact hj)]
    | succ k =>
      rw [List.drop_succ_cons] at h
      rw [List.getElem?_append_right (by rw [tkC_len]; omega), tkC_len, show (k + 1) * 6 + j - 6 = k * 6 + j by omega]
      exact ih k h
theorem dw_nil (p : UInt8 → Bool) : ∀ l : List UInt8, (∀ a ∈ l, p a = true) → l.dropWhile p = []
  | [], _ => rfl
  | c :: l, h => by rw [List.dropWhile_cons, if_pos (h c (by simp))]; exact dw_nil p l fun a ha => h a (by simp [ha])
end Go.Proofs.YtjjchbafobcofaaGreatDoor.Lex
