/- slices.Grow and slices.Concat of fields; the fields of a form turned round. -/
import Derived.Test.YtdndphagfohpnaaDoorRkForm
import Derived.Test.YtdndphagfohpnaaDoorRkB
import Derived.Test.YtdndphagfohpnaaDoorRegP
import Derived.Lib.AppendZeros
import Derived.Deep.AppendLies
namespace Go.Proofs.YtdndphagfohpnaaDoor.FldU
open Go.RowKit
open ValM LexM NumM ExM NmM Kit ExL ExP ExN ExC RawV Within RawL RawN GenL Gen GenT GenV FrmM Frm FldP FldR FldC FrmT FrmO TyM Ty RkM RegI
set_option linter.unusedVariables false

theorem info_parts9 {t : TypeId} {z : Value} {s b : Nat} (h : (Tryd.prog.info? t).map (fun i => (i.zero, i.size, i.bytes)) = some (some z, s, b)) : ∃ i0, Tryd.prog.info? t = some i0 ∧ i0.zero = some z ∧ i0.size = s ∧ i0.bytes = b := by
  cases hi : Tryd.prog.info? t with
  | none => rw [hi] at h; cases h
  | some i0 =>
    rw [hi] at h
    simp only [Option.map_some, Option.some.injEq, Prod.mk.injEq] at h
    exact ⟨i0, rfl, h.1, h.2.1, h.2.2⟩
theorem infoFd9 : (Tryd.prog.info? 36).map (fun i => (i.zero, i.size, i.bytes)) = some (some (.agg #[.string ⟨#[]⟩, .int .i64 0, .int .i64 0, .int .i64 0, .int .i64 0, .int .i64 0, .string ⟨#[]⟩, .string ⟨#[]⟩, .slice none 0 0]), 9, 112) := by kernel_rfl
def GrowOut (w : World) (e : Ending) (w' : World) : Prop :=
  ∃ g cap, e = .returned (.slice (some ⟨g, 0, none⟩) 0 cap) ∧ w'.ownsRow w.heap.size 36 9 (.slice (some ⟨g, 0, none⟩) 0 cap) 0 [] ∧ Below w.heap.size w w'
set_option maxRecDepth 100000 in
set_option maxHeartbeats 4000000 in
theorem grow_any (n : Nat) (w : World) (h0 : 0 < n) (hn : n ≤ 1000) : Calls Tryd.prog 21 #[.slice none 0 0, .int .i64 n] w (GrowOut w) := by
  obtain ⟨i0, hi, hz0, hz1, hz2⟩ := info_parts9 infoFd9
  have hrun := fun (V : World) (ty : TypeId) => Lib.run_append_nil_zeros (P := Tryd.prog) V 23 3 ty 36 i0 _ .i64 .i64 Tryd.underlying23 Tryd.underlying3 hi hz0 n h0 (by omega) (by omega) (by rw [hz2]; omega)
  have hfin : GrowOut w (.returned (.slice (some ⟨w.heap.size, 0, none⟩) 0 (grownCap w n 0 36))) (w.drew.alloc (.cells (Builtin.zeroCells (Value.agg #[.string ⟨#[]⟩, .int .i64 0, .int .i64 0, .int .i64 0, .int .i64 0, .int .i64 0, .string ⟨#[]⟩, .string ⟨#[]⟩, .slice none 0 0]).cells n ++ Builtin.zeroCells (Value.agg #[.string ⟨#[]⟩, .int .i64 0, .int .i64 0, .int .i64 0, .int .i64 0, .int .i64 0, .string ⟨#[]⟩, .string ⟨#[]⟩, .slice none 0 0]).cells (grownCap w n 0 36 - n)) 36)) := by
    have hge := grownCap_ge w n 0 36
    have hle := grownCap_le_maxLen w n 0 36 (by unfold maxLen; omega)
    refine ⟨w.heap.size, _, rfl, ?_, b_more (b_drew (Below.refl _ _)) _⟩
    have := World.ownsRow_made (base := w.heap.size) (size := 9) (e := 36) w.drew (Builtin.zeroCells (Value.agg #[.string ⟨#[]⟩, .int .i64 0, .int .i64 0, .int .i64 0, .int .i64 0, .int .i64 0, .string ⟨#[]⟩, .string ⟨#[]⟩, .slice none 0 0]).cells n ++ Builtin.zeroCells (Value.agg #[.string ⟨#[]⟩, .int .i64 0, .int .i64 0, .int .i64 0, .int .i64 0, .int .i64 0, .string ⟨#[]⟩, .string ⟨#[]⟩, .slice none 0 0]).cells (grownCap w n 0 36 - n)) (grownCap w n 0 36) (Nat.le_refl _) hle (by simp [Builtin.zeroCells, Value.cells]; omega)
    exact this
  obtain ⟨g, cap, W, hr, hf⟩ : ∃ g cap W, (∀ ty, (Builtin.append_ #[23, 3] ty #[.slice none 0 0, .int .i64 n]).run Tryd.prog w = .ok (.slice (some ⟨g, 0, none⟩) n cap) W) ∧ GrowOut w (.returned (.slice (some ⟨g, 0, none⟩) 0 cap)) W := ⟨_, _, _, fun ty => hrun w ty, hfin⟩
  have HR := Lib.hid hr
  have HF := Lib.hid hf
  have n1 : ¬ (n : Int) < 0 := by omega
  have n2 : (0 : Int) < (n : Int) := by omega
  have n3 : (n : Int) ≤ 1000 := by omega
  clear hrun hfin hr hf hi hz0 hz1 hz2
  go_enter Tryd.func21, Tryd.ntmps21
  go_wp2_with (at_builtin; refine Lib.wpList_append_run _ rfl _ _ _ _ rfl _ _ rfl rfl _ _ (HR.out _) ?_)
  go_ret
  exact HF.out
/-! ### slices.Concat of two -/
def SlC (w : World) (ad : Addr) (es : List FE) : Prop := ∀ j u, (feC es)[j]? = some u → w.cell? (ad.add j) = some u
theorem SlC.below {w w' : World} {ad : Addr} {es : List FE} (h : SlC w ad es) (hb : Below w.heap.size w w') : SlC w' ad es := fun j u hu => by
  have := h j u hu
  exact (hb.cell (World.block_lt_of_cell? w _ this)).trans this
theorem feC_one : ∀ (es : List FE), ∀ u ∈ feC es, u.oneCell' = true
  | [], u, h => by simp [feC] at h
  | e :: l, u, h => by
    have h : u ∈ fdC e.fd ++ feC l := h
    rcases List.mem_append.1 h with h | h
    · simp [fdC] at h
      rcases h with rfl | rfl | rfl | rfl | rfl | rfl | rfl | rfl | rfl <;> rfl
    · exact feC_one l u h
def OwnF (w : World) (es : List FE) (o : Value) (w' : World) : Prop :=
  ∃ g cap, o = .slice (some ⟨g, 0, none⟩) es.length cap ∧ w'.ownsRow w.heap.size 36 9 (.slice (some ⟨g, 0, none⟩) es.length cap) es.length (feC es) ∧ Below w.heap.size w w'
theorem OwnF.step {w wr w' : World} {a b : List FE} {g cap n : Nat} {v' : Value} (h1 : wr.ownsRow w.heap.size 36 9 (.slice (some ⟨g, 0, none⟩) a.length cap) a.length (feC a)) (hb : Below w.heap.size w wr) (h2 : w'.ownsRow w.heap.size 36 9 v' n (feC a ++ feC b)) (hnn : a.length + b.length = n) (h3 : wr.grownBy w' (Value.slice (some ⟨g, 0, none⟩) a.length cap).ownBlock) (hn : 0 < a.length + b.length) : OwnF w (a ++ b) v' w' := by
  subst hnn
  obtain ⟨g2, cap2, rfl, _, _⟩ := h2.form hn
  refine ⟨g2, cap2, by rw [List.length_append], by rw [List.length_append, feC_app]; exact h2, hb.grown h3 hb.size (fun k e => (h1.lt k e).1)⟩
def ConOut (es : List FE) (w : World) (e : Ending) (w' : World) : Prop := ∃ o, e = .returned o ∧ OwnF w es o w'
set_option maxRecDepth 100000 in
set_option maxHeartbeats 4000000 in
theorem concat_any (b : Nat) (a1 a2 : Addr) (pc c1 c2 : Nat) (es1 es2 : List FE) (w : World) (h1 : w.cell? ⟨b, 0, none⟩ = some (.slice (some a1) es1.length c1)) (h2 : w.cell? ⟨b, 1, none⟩ = some (.slice (some a2) es2.length c2))
    (hs1 : SlC w a1 es1) (hs2 : SlC w a2 es2) (hn : 0 < es1.length) (hm : es1.length + es2.length ≤ 10) : Calls Tryd.prog 9 #[.slice (some ⟨b, 0, none⟩) 2 pc] w (ConOut (es1 ++ es2) w) := by
  obtain ⟨i0, hi, hz0, hz1, hz2⟩ := info_parts9 infoFd9
  obtain ⟨N, hN⟩ : ∃ N, es1.length + es2.length = N := ⟨_, rfl⟩
  have hg := grow_any N w (by omega) (by omega)
  have HG := Lib.hid hg
  have HS1 := Lib.hid hs1
  have HS2 := Lib.hid hs2
  have HH1 := Lib.hid h1
  have HH2 := Lib.hid h2
  clear hg hs1 hs2
  go_enter Tryd.func9, Tryd.ntmps9
  go_wp2_with fail
  go_loopw [3, 5, 11] (fun t _ i wr => ((i = .int .i64 0 ∧ t = .int .i64 0) ∨ (i = .int .i64 1 ∧ t = .int .i64 es1.length) ∨ (i = .int .i64 2 ∧ t = .int .i64 N)) ∧ wr = w) (fun _ _ i _ => 2 - (intOf i).toNat)
  case atStart => exact ⟨.inl ⟨rfl, rfl⟩, rfl⟩
  case round =>
    obtain ⟨hd, rfl⟩ := hrel
    rcases hd with ⟨rfl, rfl⟩ | ⟨rfl, rfl⟩ | ⟨rfl, rfl⟩
    · go_wp2_with fail
      go_roundw
      case rel => exact ⟨.inr (.inl ⟨by go_num, by go_num⟩), by first | trivial | rfl⟩
      case measure => simp [intOf]
    · go_wp2_with fail
      go_roundw
      case rel => exact ⟨.inr (.inr ⟨by go_num, by go_num⟩), by first | trivial | rfl⟩
      case measure => simp [intOf]
    · obtain ⟨W0, rfl⟩ : ∃ V, V = wr := ⟨_, rfl⟩
      go_wp2_with fail
      refine HG.out.mono ?_; rintro e w1 ⟨g, cap, rfl, hown, hb⟩
      have HI := Lib.hid (show OwnF W0 [] (.slice (some ⟨g, 0, none⟩) 0 cap) w1 from ⟨g, cap, rfl, hown, hb⟩)
      clear hown hb
      go_wp2_with fail
      go_loopw [6, 8, 27] (fun o _ i V => (i = .int .i64 0 ∧ OwnF W0 [] o V) ∨ (i = .int .i64 1 ∧ OwnF W0 es1 o V) ∨ (i = .int .i64 2 ∧ OwnF W0 (es1 ++ es2) o V)) (fun _ _ i _ => 2 - (intOf i).toNat)
      case atStart => exact .inl ⟨rfl, HI.out⟩
      case round =>
        rcases hrel with ⟨rfl, g, cap, rfl, hown, hb⟩ | ⟨rfl, g, cap, rfl, hown, hb⟩ | ⟨rfl, hO⟩
        · have hc := (hb.cell (World.block_lt_of_cell? _ _ HH1.out)).trans HH1.out
          have hsl := HS1.out.below hb
          have HO := Lib.hid (And.intro hown hb)
          have hsz := hb.size
          have HSl := Lib.hid hsl
          clear hown hb hsl
          go_wp2_with (at_builtin; refine wpList_append_own_at _ rfl _ _ 23 rfl W0.heap.size 36 i0 _ 9 112 Tryd.underlying23 hi hz0 hz1 hz2 rfl (by decide) (.slice (some ⟨g, 0, none⟩) [].length cap) [].length (feC []) rfl HO.out.1 a1 es1.length c1 (feC es1) rfl (feC_len _) HSl.out (feC_one _) (by unfold maxLen; simp; omega) (by simp; omega) hsz ?_)
          intro v' w' hown2 hgrow2 _ _
          have hNn := OwnF.step (a := []) (b := es1) HO.out.1 HO.out.2 hown2 (by simp) hgrow2 (by simp; omega)
          rw [List.nil_append] at hNn
          have HN := Lib.hid hNn
          clear hNn hown2 hgrow2
          go_wp2_with fail
          go_roundw
          case rel => exact .inr (.inl ⟨by go_num, HN.out⟩)
          case measure => simp [intOf]
        · have hc := (hb.cell (World.block_lt_of_cell? _ _ HH2.out)).trans HH2.out
          have hsl := HS2.out.below hb
          have HO := Lib.hid (And.intro hown hb)
          have hsz := hb.size
          have HSl := Lib.hid hsl
          clear hown hb hsl
          go_wp2_with (at_builtin; refine wpList_append_own_at _ rfl _ _ 23 rfl W0.heap.size 36 i0 _ 9 112 Tryd.underlying23 hi hz0 hz1 hz2 rfl (by decide) (.slice (some ⟨g, 0, none⟩) es1.length cap) es1.length (feC es1) rfl HO.out.1 a2 es2.length c2 (feC es2) rfl (feC_len _) HSl.out (feC_one _) (by unfold maxLen; omega) (by omega) hsz ?_)
          intro v' w' hown2 hgrow2 _ _
          have hNn := OwnF.step (a := es1) (b := es2) HO.out.1 HO.out.2 hown2 (by omega) hgrow2 (by omega)
          have HN := Lib.hid hNn
          clear hNn hown2 hgrow2
          go_wp2_with fail
          go_roundw
          case rel => exact .inr (.inr ⟨by go_num, HN.out⟩)
          case measure => simp [intOf]
        · have HO := Lib.hid hO
          clear hO
          go_wp2_with fail
          go_ret
          exact ⟨_, rfl, HO.out⟩
/-! ### a form's fields, turned round -/
def rotI (n k i : Nat) : Nat := if i + k < n then i + k else i + k - n
theorem rot_lt {n k i : Nat} (hk : k < n) (hi : i < n) : rotI n k i < n := by unfold rotI; split <;> omega
theorem rot_at (es : List FE) (k i : Nat) (hk : k < es.length) (hi : i < es.length) (h : i < (es.drop k ++ es.take k).length) : (es.drop k ++ es.take k)[i] = es[rotI es.length k i]'(rot_lt hk hi) := by
  by_cases h1 : i < (es.drop k).length
  · rw [List.getElem_append_left h1, List.getElem_drop]
    have e : k + i = rotI es.length k i := by
      rw [List.length_drop] at h1
      unfold rotI; rw [if_pos (by omega)]; omega
    simp only [e]
  · rw [List.getElem_append_right (by omega), List.getElem_take]
    have e : i - (es.drop k).length = rotI es.length k i := by
      rw [List.length_drop] at h1 ⊢
      unfold rotI; rw [if_neg (by omega)]; omega
    simp only [e]
theorem rot_len (es : List FE) (k : Nat) (hk : k < es.length) : (es.drop k ++ es.take k).length = es.length := by
  rw [List.length_append, List.length_drop, List.length_take]; omega
theorem rot_fd (es : List FE) (k i : Nat) (hk : k < es.length) (hi : i < es.length) (h : i < ((es.drop k ++ es.take k).map FE.fd).length) : ((es.drop k ++ es.take k).map FE.fd)[i] = (es.map FE.fd)[rotI es.length k i]'(by rw [List.length_map]; exact rot_lt hk hi) := by
  rw [List.getElem_map, List.getElem_map, rot_at es k i hk hi]
theorem rot_x (es : List FE) (k i : Nat) (hk : k < es.length) (hi : i < es.length) : xOf (es.drop k ++ es.take k) i = xOf es (rotI es.length k i) := by
  rw [xOf_at _ _ (by rw [rot_len es k hk]; exact hi), xOf_at _ _ (rot_lt hk hi), rot_at es k i hk hi]
theorem rot_base {rs : List Rw} {es : List FE} {π : Nat → Nat} (h : OfBase rs (es.map FE.fd) (xOf es) π) (k : Nat) (hk : k < es.length) : OfBase rs ((es.drop k ++ es.take k).map FE.fd) (xOf (es.drop k ++ es.take k)) (fun i => π (rotI es.length k i)) := by
  have hl : ((es.drop k ++ es.take k).map FE.fd).length = es.length := by rw [List.length_map, rot_len es k hk]
  have hl0 : (es.map FE.fd).length = es.length := List.length_map _
  refine ⟨by rw [hl, ← hl0]; exact h.len, fun i hi => ?_, fun i j hi hj e => ?_, fun j hj => ?_, fun i hi hb => ?_⟩
  · rw [hl] at hi ⊢
    have := h.lt _ (by rw [hl0]; exact rot_lt hk hi)
    rwa [hl0] at this
  · rw [hl] at hi hj
    have := h.inj _ _ (by rw [hl0]; exact rot_lt hk hi) (by rw [hl0]; exact rot_lt hk hj) e
    unfold rotI at this
    split at this <;> split at this <;> omega
  · rw [hl] at hj ⊢
    obtain ⟨m, hm, e⟩ := h.sur j (by rw [hl0]; exact hj)
    rw [hl0] at hm
    refine ⟨if k ≤ m then m - k else m + es.length - k, by split <;> omega, ?_⟩
    have : rotI es.length k (if k ≤ m then m - k else m + es.length - k) = m := by unfold rotI; split <;> split <;> omega
    show π _ = j
    rw [this, e]
  · rw [hl] at hi
    have := h.at' (rotI es.length k i) (by rw [hl0]; exact rot_lt hk hi) hb
    rw [rot_fd es k i hk hi, rot_x es k i hk hi]
    exact this
theorem rot_forms {w : World} {es : List FE} (h : Forms w (es.map FE.fd) (xOf es)) (k : Nat) (hk : k < es.length) : Forms w ((es.drop k ++ es.take k).map FE.fd) (xOf (es.drop k ++ es.take k)) := fun i hi => by
  have hi' : i < es.length := by rwa [List.length_map, rot_len es k hk] at hi
  have := h (rotI es.length k i) (by rw [List.length_map]; exact rot_lt hk hi')
  rw [rot_fd es k i hk hi', rot_x es k i hk hi']
  exact this
theorem slC_of {P : Nat → Prop} {w : World} {g : Nat} {es : List FE} (h : FRow P w (some ⟨g, 0, none⟩) es) (k : Nat) (l : List FE) (hl : ∀ i (hi : i < l.length), ∃ h2 : k + i < es.length, l[i] = es[k + i]) : SlC w ⟨g, k * 9, none⟩ l := fun j u hu => by
  have hj : j < l.length * 9 := by rw [← feC_len]; exact (List.getElem?_eq_some_iff.1 hu).1
  have e1 : j = (j / 9) * 9 + j % 9 := by omega
  have hi : j / 9 < l.length := by omega
  have e2 := feC_at l (j / 9) (j % 9) hi (by omega)
  rw [← e1, hu] at e2
  obtain ⟨h2, e3⟩ := hl _ hi
  obtain ⟨g', eg, _, hc, _⟩ := h (k + j / 9) h2
  obtain rfl : g = g' := by injection eg with eg; injection eg
  have h4 := hc (j % 9) (by omega)
  rw [← e3, ← e2] at h4
  rw [← h4, Addr.add_lit]
  congr 2
  omega
def TurnAt (fds : List GenL.Fd) (v : Value) (w : World) : Prop := ∃ g cap, v = .slice (some ⟨g, 0, none⟩) fds.length cap ∧ Flds w (some ⟨g, 0, none⟩) fds ∧ fds.length ≤ cap ∧ cap ≤ maxLen
theorem TurnAt.below {fds : List GenL.Fd} {v : Value} {w w' : World} (h : TurnAt fds v w) (hb : Below w.heap.size w w') : TurnAt fds v w' := by
  obtain ⟨g, cap, e, h1, h2⟩ := h
  exact ⟨g, cap, e, h1.below hb, h2⟩
theorem ownF_turn {w w' : World} {es : List FE} {o : Value} (h : OwnF w es o w') : TurnAt (es.map FE.fd) o w' := by
  obtain ⟨g, cap, rfl, hown, _⟩ := h
  refine ⟨g, cap, by rw [List.length_map], flds_of fun j hj => hown.cellAt j hj, ?_⟩
  rw [List.length_map]
  rcases hown.2 with ⟨e, _⟩ | ⟨g', cap', cur, e, _, _, h1, h2, _⟩
  · simp at e
  · simp only [Value.slice.injEq] at e
    obtain ⟨_, _, rfl⟩ := e
    exact ⟨h1, h2⟩
theorem slice_two (w : World) (a1 a2 : Addr) (n1 n2 c1 c2 : Nat) : (Instr.buildSlice 62 2 #[(0, .slice (some a1) n1 c1), (1, .slice (some a2) n2 c2)]).run Tryd.prog w = .ok (.slice (some ⟨w.heap.size, 0, none⟩) 2 2) (w.alloc (.cells #[.slice (some a1) n1 c1, .slice (some a2) n2 c2] 23)) := by kernel_rfl
def VT (FA : Value) (k : Nat) (s1 s2 : Value) (fds : List GenL.Fd) : Nat → Value → World → Prop
  | 0, v, _ => v = FA
  | 1, v, _ => v = .int .i64 k
  | 2, v, _ => v = s1
  | 3, v, _ => v = FA
  | 4, v, _ => v = .int .i64 k
  | 5, v, _ => v = s2
  | 6, v, w => ∃ g, v = .slice (some ⟨g, 0, none⟩) 2 2 ∧ w.cell? ⟨g, 0, none⟩ = some s1 ∧ w.cell? ⟨g, 1, none⟩ = some s2
  | 7, v, w => TurnAt fds v w
  | _, _, _ => False
theorem VT.mono (FA : Value) (k : Nat) (s1 s2 : Value) (fds : List GenL.Fd) : ∀ i v w w', Below w.heap.size w w' → VT FA k s1 s2 fds i v w → VT FA k s1 s2 fds i v w' := fun i v w w' hb h => by
  match i, h with
  | 6, ⟨g, h1, h2, h3⟩ => exact ⟨g, h1, (hb.cell (p := ⟨g, 0, none⟩) (World.block_lt_of_cell? w _ h2)).trans h2, (hb.cell (p := ⟨g, 1, none⟩) (World.block_lt_of_cell? w _ h3)).trans h3⟩
  | 7, h => exact TurnAt.below h hb
  | 0, h | 1, h | 2, h | 3, h | 4, h | 5, h => exact h
  | i + 8, h => exact h.elim
/-! ### the one field that asks for a formula and has none -/
def oneFd : GenL.Fd := ⟨⟨#[97]⟩, 2, 1, zeroN, none, 0, 0⟩
theorem one_fault : checkF [oneFd] (fun _ => zeroX) = 2 := by decide
theorem one_is (w : World) : Is w zeroX zeroN none 0 := by
  unfold zeroX
  rw [Is, IsL]
  exact ⟨rfl, rfl, ⟨by decide, by decide, by decide⟩, trivial⟩
theorem one_any (w : World) (hT : Tab w) : Calls Tryd.prog 10 #[.slice (some ⟨w.heap.size, 0, none⟩) 1 1] (w.alloc (.cells #[.string ⟨#[97]⟩, .int .i64 2, .int .i64 1, .int .i64 0, .int .i64 0, .int .i64 0, .string ⟨#[]⟩, .string ⟨#[]⟩, .slice none 0 0] 36)) fun e w' => e = .returned (.int .i64 2) ∧ Below (w.alloc (.cells #[.string ⟨#[97]⟩, .int .i64 2, .int .i64 1, .int .i64 0, .int .i64 0, .int .i64 0, .string ⟨#[]⟩, .string ⟨#[]⟩, .slice none 0 0] 36)).heap.size (w.alloc (.cells #[.string ⟨#[97]⟩, .int .i64 2, .int .i64 1, .int .i64 0, .int .i64 0, .int .i64 0, .string ⟨#[]⟩, .string ⟨#[]⟩, .slice none 0 0] 36)) w' := by
  have hb := b_new w (.cells #[.string ⟨#[97]⟩, .int .i64 2, .int .i64 1, .int .i64 0, .int .i64 0, .int .i64 0, .string ⟨#[]⟩, .string ⟨#[]⟩, .slice none 0 0] 36)
  have hc := head_cells w oneFd
  have := FldC.check_any [oneFd] (fun _ => zeroX) (some ⟨w.heap.size, 0, none⟩) 1 (w.alloc (.cells #[.string ⟨#[97]⟩, .int .i64 2, .int .i64 1, .int .i64 0, .int .i64 0, .int .i64 0, .string ⟨#[]⟩, .string ⟨#[]⟩, .slice none 0 0] 36)) (by simp) ?_ ?_ (hT.below hb) ⟨by simp, by decide⟩
  · rw [one_fault] at this; exact this
  · intro i hi
    obtain rfl : i = 0 := by simp at hi; omega
    refine ⟨_, rfl, ?_⟩
    rw [Addr.add_lit]
    exact hc _ (Below.refl _ _)
  · intro i hi
    obtain rfl : i = 0 := by simp at hi; omega
    exact ⟨by show oneFd.nm.size ≤ maxLen; decide, one_is _⟩
end Go.Proofs.YtdndphagfohpnaaDoor.FldU
