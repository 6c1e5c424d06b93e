/- Contract of names.Of. -/
import Derived.Test.YthgcmficmodhiaaGreatDoorNmHas
import Derived.Test.YthgcmficmodhiaaGreatDoorExCheck
import Derived.Test.YthgcmficmodhiaaGreatDoorIter
import Derived.RangeFuncBox
import Derived.RangeFuncWrites
import Derived.Maps.OwnIn
import Derived.StringKeys
namespace Go.Proofs.YthgcmficmodhiaaGreatDoor.NmO
open Go.RowKit Go.Shelf Go.Maps
open ExM NmM Kit ExL ExV ExN NmV
set_option linter.unusedVariables false
attribute [local go_sem] Oper.semAt_some

def lits (l : List Nm) : List Lit := (bare l).map fun s => Lit.string s.data.toList
/-- The set of the names that came, as a datum. -/
def seenD {H : Type} (l : List Nm) : DataW H := setOf (.lit (.bool true)) (lits l)
theorem seenD_snoc {H : Type} (pre : List Nm) (x : Nm) : seenD (H := H) (pre ++ [x]) = (seenD pre).put (.string x.1.data.toList) (.lit (.bool true)) := by
  unfold seenD setOf lits
  rw [bare_append, List.map_append, List.foldl_append]; rfl
def bytesL (l : List ByteArray) : List Bs := l.map fun s => s.data.toList
theorem has_seen {H : Type} (l : List Nm) (x : Bs) : has (seenD (H := H) l) (.string x) = true ↔ x ∈ bytesL (bare l) := by
  unfold seenD
  rw [has_setOf _ _ _ (fun y hy => by
    unfold lits at hy
    obtain ⟨s, _, rfl⟩ := List.mem_map.1 hy
    trivial), List.any_eq_true]
  unfold lits bytesL
  constructor
  · rintro ⟨y, hy, he⟩
    obtain ⟨s, hs, rfl⟩ := List.mem_map.1 hy
    have e : s.data.toList = x := by simpa [Lit.sameKey] using he
    exact List.mem_map.2 ⟨s, hs, e⟩
  · intro h
    obtain ⟨s, hs, rfl⟩ := List.mem_map.1 h
    exact ⟨_, List.mem_map.2 ⟨s, hs, rfl⟩, by simp [Lit.sameKey]⟩
theorem sorted_seen {H : Type} {w : World} {R : Value → Option (DataW H × List MemPlace)} {b n : Nat} {l : List Nm} (hown : w.ownsMap Tryz.prog 9 R b n (seenD l)) {ss : List Bs} (hp : ss.Perm (strKeys (seenD (H := H) l))) :
    ss.mergeSort (fun x y => decide (x ≤ y)) = rise (bytesL (bare l)) ∧ ss.length = (rise (bytesL (bare l))).length := by
  have hc : Collected (seenD (H := H) l) (fun _ => false) (rise (bytesL (bare l))) := ⟨rise_nodup _, fun x => by rw [rise_mem, has_seen]; simp⟩
  have h1 := hc.perm hown (string_keyed Tryz.underlying9) Tryz.underlying9 (fun _ => rfl)
  have h2 : ss.Perm (rise (bytesL (bare l))) := hp.trans h1.symm
  exact ⟨rise_unique _ _ (h2.nodup_iff.2 (rise_nodup _)) (fun x => by rw [h2.mem_iff, rise_mem]), h2.length_eq⟩

/-- What Of answers. -/
def ofL (x : Ex) : List Bs := if x.checkE = 0 then rise (bytesL (Ex.refs x)) else []
def StrsOut (L : List Bs) (R : Int) (w : World) (e : Ending) (w' : World) : Prop :=
  ∃ v : Value, e = .returned (.tuple #[v, .int .i64 R]) ∧ w'.ownsRow w.heap.size 9 1 v L.length (L.map encStr) ∧ Below w.heap.size w w'
theorem boxP {w : World} (o0 o1 o2 : Obj) : (((w.alloc o0).alloc o1).alloc o2).heap[w.heap.size]? = some o0 ∧ (((w.alloc o0).alloc o1).alloc o2).heap[w.heap.size + 1]? = some o1 ∧ (((w.alloc o0).alloc o1).alloc o2).heap[w.heap.size + 1 + 1]? = some o2 := by
  have a0 := World.alloc_heap_new w o0
  have a1 := World.alloc_heap_new (w.alloc o0) o1
  have a2 := World.alloc_heap_new ((w.alloc o0).alloc o1) o2
  simp only [World.size_alloc] at a1 a2
  have k := fun (v : World) (o : Obj) (b : Nat) (x : Obj) (h : v.heap[b]? = some x) => ((b_new v o).block b (Array.getElem?_eq_some_iff.1 h).1).trans h
  exact ⟨k _ _ _ _ (k _ _ _ _ a0), k _ _ _ _ a1, a2⟩

set_option maxRecDepth 100000 in
set_option maxHeartbeats 4000000 in
theorem of_any (x : Ex) (d : Nd) (A : Option Addr) (m c : Nat) (w : World) (his : Is w x d A m) (hT : Tab w) :
    Calls Tryz.prog 32 #[.agg #[.int .i64 d.op, .int .i64 d.k, .int .i64 d.n, .string d.s, .string d.nm, .slice A m c]] w (StrsOut (ofL x) x.checkE w) := by
  refine (callsIn_wide (n := 6)).1 ?_
  obtain ⟨R, hR⟩ : ∃ R, x.checkE = R := ⟨_, rfl⟩
  have hx6 : R = 0 → x.nodes ≤ 60 := fun h => (checkE_zero (by rw [hR, h])).1
  have hL : ofL x = if R = 0 then rise (bytesL (Ex.refs x)) else [] := by unfold ofL; rw [hR]
  have hrl := refs_len x
  rw [hR]
  have hck := fun V (hb : Below w.heap.size w V) => ExC.check_any x d A m c V (his.below hb) (hT.below hb)
  rw [hR] at hck
  have HC := Lib.hid hck
  have HIs := Lib.hid his
  have HL := Lib.hid hL
  have HX := Lib.hid hx6
  have hmm := @run_makeMap Tryz.prog
  clear his hR hT hck hL hx6
  refine callsIn_of_wp_marks Tryz.func32 rfl trivial ?_ rfl
  simp only [Tryz.ntmps32, List.size_toArray, List.length_cons, List.length_nil, Nat.reduceAdd, Nat.reduceSub, Array.replicate_succ, Array.replicate_zero, List.push_toArray, List.append_toArray, List.nil_append, List.cons_append]
  gi_wp2_with fail
  refine ⟨trivial, ?_⟩
  refine ((callsIn_wide (n := 5)).2 (HC.out _ (b_new w _))).mono ?_
  rintro e w1 ⟨rfl, hb⟩
  have k0 : Box w1 w.heap.size d A m c := (Box.new w d A m c).below hb
  have hb1 : Below w.heap.size w w1 := b_then hb
  obtain ⟨c0, c1, c2, c3, c4, c5⟩ := k0.cells
  have hl0 := k0.lt
  have HB1 := Lib.hid hb1
  clear hb hb1 k0
  by_cases h0 : R = 0
  · subst h0
    have hL := HL.out
    rw [if_pos rfl] at hL
    have HL2 := Lib.hid hL
    have h60 := HX.out rfl
    clear hL HL HX
    gi_wp2_with (refine ⟨trivial, ?_⟩; gi_at_call 52; refine (refs_in Fence.wide _ trivial rfl d A m c _).mono ?_; rintro e w' ⟨rfl, rfl⟩)
    have hm0 := World.ownsMap_made w1 Tryz.prog 9 (plainElem (H := Unit) Tryz.prog 4)
    have hbx := boxP (w := w1) (.map #[] 0) (.cells #[.map (some w1.heap.size)] 78) (.cells #[.int .i64 d.op, .int .i64 d.k, .int .i64 d.n, .string d.s, .string d.nm, .slice A m c] 46)
    have hbB : Below w.heap.size w (((w1.alloc (.map #[] 0)).alloc (.cells #[.map (some w1.heap.size)] 78)).alloc (.cells #[.int .i64 d.op, .int .i64 d.k, .int .i64 d.n, .string d.s, .string d.nm, .slice A m c] 46)) := HB1.out.trans ((b_more (b_more (b_new _ _) _) _).mono HB1.out.size)
    have hm1 := (hm0.alloc (.cells #[.map (some w1.heap.size)] 78)).alloc (.cells #[.int .i64 d.op, .int .i64 d.k, .int .i64 d.n, .string d.s, .string d.nm, .slice A m c] 46)
    obtain ⟨W0, hW0⟩ : ∃ W0, (((w1.alloc (.map #[] 0)).alloc (.cells #[.map (some w1.heap.size)] 78)).alloc (.cells #[.int .i64 d.op, .int .i64 d.k, .int .i64 d.n, .string d.s, .string d.nm, .slice A m c] 46)) = W0 := ⟨_, rfl⟩
    rw [hW0] at hbx hbB hm1 ⊢
    have hsz : W0.heap.size = w1.heap.size + 3 := by rw [← hW0]; simp
    have hls := HB1.out.size
    clear hW0 hm0 c0 c1 c2 c3 c4 c5
    have hsz1 : w1.heap.size + 3 ≤ W0.heap.size := by omega
    have hsz2 : W0.heap.size ≤ w1.heap.size + 3 := by omega
    clear hsz
    obtain ⟨_, hq1, hq2⟩ := hbx
    refine wpIn_rangeFunc_ownG rfl (by decide) (gf := 72) (lb := #[.pointer (some ⟨w1.heap.size + 1 + 1, 0, none⟩)]) rfl trivial (enters_of Tryz.func72 (by kernel_rfl) rfl)
      (refs_stops Fence.wide rfl trivial trivial rfl _ (w1.heap.size + 1 + 1) w W0 x d A m c HIs.out hbB hq2) Kp.trans (fun W l o o' hl ho hc _ => kp_putObj W l o o' (by omega) ho hc) (Below.refl _ _) (fun _ => rfl)
      (fun pre W => ((W.cell? ⟨w1.heap.size + 1, 0, none⟩ = some (.map (some w1.heap.size))) ∧ W.ownsMap Tryz.prog 9 (plainElem (H := Unit) Tryz.prog 4) w1.heap.size pre.length (seenD pre)) ∧ Below w.heap.size w W)
      (fun _ _ _ => False)
      (OwnFrom.and (fun s A B row hs hg hr => ⟨cell_kept hs.1 hg (fun r e => (hr r e).2), hs.2.kept hg (fun e => by have := (hr _ e.symm).1; omega)⟩) (ownFrom_below (Nat.le_refl _) (by omega)))
      (fun _ _ _ _ _ hs _ _ => hs)
      ⟨⟨Boxed.cell (t := 78) hq1, hm1⟩, hbB⟩
      (fun y => { tmps := #[.agg #[.int .i64 d.op, .int .i64 d.k, .int .i64 d.n, .string d.s, .string d.nm, .slice A m c], .pointer (some ⟨w.heap.size, 0, none⟩), .slice none 0 0, .int .i64 0, .int .i64 0, .pointer (some ⟨w1.heap.size + 1, 0, none⟩), .string y.1, .agg #[.int .i64 d.op, .int .i64 d.k, .int .i64 d.n, .string d.s, .string d.nm, .slice A m c], .int .i64 0, .int .i64 0, .bool false, undef, .map (some w1.heap.size), .agg #[.int .i64 d.op, .int .i64 d.k, .int .i64 d.n, .string d.s, .string d.nm, .slice A m c], .func (.func 72) #[] #[.pointer (some ⟨w1.heap.size + 1 + 1, 0, none⟩)], .string y.1, undef, undef, undef, undef, undef], defers := [] }) ?assign ?body ?done ?stop
    case assign =>
      intro l y W K hK
      gi_wp2
      simpa [NmV.encs] using hK
    case body =>
      rintro l pre y W ⟨⟨hc, hown⟩, hB⟩ hlt
      gi_wp2_with (gi_at_mapUpdate; refine wpListIn_mapUpdate_own _ rfl _ _ _ 78 rfl 9 4 (string_keyed Tryz.underlying9) Tryz.underlying78 _ w1.heap.size pre.length _ rfl hown (by unfold maxLen; omega) _ _ _ rfl rfl (WideMaps.keyOf_string_mk Tryz.underlying9 y.2) _ [] (plainElem_bool Tryz.underlying4 true) ?_; intro w2 hown1 hgrow1)
      obtain ⟨es, ck, hh, _⟩ := hown
      have hwB := hB.size
      exact ⟨KeepsFrom.of_grownBy hgrow1 (fun j e => by cases e; omega), ⟨(Below.refl _ W).grown hgrow1 hB.size (fun k e => by cases e; exact hls), fun b o hb ho _ => by
          rw [hgrow1.block b (Array.getElem?_eq_some_iff.1 ho).1 (fun e => by cases e; omega)]; exact ho⟩,
        ⟨cell_kept hc hgrow1 (fun r e => by cases e; exact ⟨_, hh, rfl⟩), by rw [seenD_snoc, List.length_append]; exact hown1⟩, hB.grown hgrow1 hB.size (fun k e => by cases e; exact hls)⟩
    case done =>
      rintro D ys W hD hys ⟨⟨hc, hown⟩, hB⟩ hK
      have hyl : ys.length ≤ 60 := by
        have e1 : ys.length = (Ex.refs x).length := by rw [← hys, bare_len]
        omega
      have hsl := hown.size_le
      have hfK : Fence.wide.fn 54 := trivial
      have hfS : Fence.wide.fn 53 := trivial
      have hKb := (Array.getElem?_eq_some_iff.1 hK).1
      have HY := Lib.hid hys
      have HO := Lib.hid hown
      clear hys
      gi_wp2_with (first | (gi_at_call 54; refine (Tryz.maps_Keys_54 _ _).mono ?_; rintro e w' ⟨rfl, rfl⟩) | (gi_at_call 53; refine (Tryz.slices_Sorted_keys_53_54 w1.heap.size ys.length (seenD ys) _ W HO.out (by unfold maxLen; omega) (by omega)).mono ?_; rintro e w3 ⟨v, ss, rfl, hS, hrow, hnil, hb3⟩))
      have hK2 : (W.alloc (.cells #[.map (some w1.heap.size)] 78)).heap[D]? = some (.deferred (some [])) := ((b_new W _).block D hKb).trans hK
      have hK3 : w3.heap[D]? = some (.deferred (some [])) := (hb3.block D (by simp; omega)).trans hK2
      refine ⟨by simp, .inl ⟨_, _, rfl, run_takeDeferred hK3, ?_⟩⟩
      obtain ⟨hs1, hs2⟩ := sorted_seen HO.out hS
      rw [HY.out] at hs1 hs2
      rw [hs1, hs2] at hrow
      have hbW : Below w.heap.size w w3 := hB.trans ((b_then hb3).mono hB.size)
      refine ⟨_, results_tmp2 rfl _ _ _, v, rfl, ?_, hbW.trans (belowK_b (w := w) (Nat.le_refl _) w3 D _ _ (by omega) hK3 rfl rfl)⟩
      rw [HL2.out]
      have hsW := hB.size
      exact ownsRow_putObj (ownsRow_base_a hrow (by simp; omega)) _ hK3 rfl
    case stop =>
      rintro D cd pre W hD hpre h hK
      exact h.elim
  · have t1 : (R != 0) = true := bne_iff_ne.2 h0
    have hL := HL.out
    rw [if_neg h0] at hL
    have HL2 := Lib.hid hL
    clear h0 hL HL HX
    gi_wp2_with fail
    refine ⟨_, results_tmp2 rfl _ _ _, ?_⟩
    exact ⟨.slice none 0 0, rfl, by rw [HL2.out]; exact World.ownsRow_nil _ _ _ _, HB1.out⟩
end Go.Proofs.YthgcmficmodhiaaGreatDoor.NmO
