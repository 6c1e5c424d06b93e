/- Iter NmTop: what these laws name of them. -/
import Derived.Shelf.SlIter.Nil
import Derived.Shelf.SortM.Plain
import Derived.Shelf.SortM.SortNone
import Derived.Ground.GgzProg
import Derived.Ground.SlgmProg
import Derived.Test.YtdefaeieiaegaaaGreatDoorProg
import Derived.RangeFuncBox
import Derived.RangeFuncWrites
import Derived.Maps.OwnIn
import Derived.StringKeys
import Derived.Laws.AppendOwnNone
import Derived.Deep.AppendLies
import Derived.Deep.RegionHeld3
import Derived.Deep.QuietTactic
import Derived.Deep.RegionWith
import Derived.Deep.RegionLaw
import Derived.Deep.DrawnRows
import Derived.BigQuiet
import Derived.Sort.EncStr
import Derived.RegionTactic
import Derived.RangeFuncNested
import Derived.RangeFuncBound
import Derived.RangeFuncCalls
import Derived.RangeFuncLeaves
import Derived.Shelf.Abstract
import Derived.Shelf.RegionOpen
import Derived.WalkKit
import Derived.OwnWalkIn
import Derived.TacticsInMore
import Derived.LoopNIn
import Derived.LoopIn
import Derived.ChangeOld
import Derived.LaidMore
import Derived.ProofKit
import Derived.Lib.Hide
import Derived.Outline
import Derived.Below
import Derived.WalkSpells
import Derived.WalkLawsBesides
import Derived.IntWalk
import Derived.Laws.OwnMore
import Derived.OwnWalk
import Derived.ChangeAlike
import GoSem.Claim
import Derived.Lib.Bytealg
import Derived.Lib.Small
import Derived.Lib.AtoiAll
import Derived.Deep.Draws
import Derived.LaidLaws
import Derived.ChangeArms
import Derived.Lib.LaidTab
import Derived.WideShapes
import Derived.Test.YtdefaeieiaegaaaGreatDoorChecked
import Derived.WalkSmall
import Derived.Deep.DeepCutAuto
import Derived.Deep.CutBlock
import Derived.Test.YtdefaeieiaegaaaGreatDoorKtp01
import Derived.Test.YtdefaeieiaegaaaGreatDoorKtp03
import Derived.Test.YtdefaeieiaegaaaGreatDoorKtp07
import Derived.Test.YtdefaeieiaegaaaGreatDoorKtp11
import Derived.Test.YtdefaeieiaegaaaGreatDoorKtp13
namespace Go.Proofs
open Go.Shelf
def Tryz.keys181_ren : Go.Shelf.Ren := ⟨fun | 7 => 181 | 10 => 208 | n => n, fun | 23 => 140 | 26 => 9 | 3 => 4 | 28 => 206 | 0 => 0 | 27 => 205 | 33 => 33 | 4 => 4 | n => n, fun | n => n⟩
theorem Tryz.keys181 : Go.Proofs.SlLaysZ.n7 Tryz.prog Tryz.keys181_ren := {
  mixed := by kernel_rfl
  f7 := ⟨Tryz.f181.name, by decide, Tryz.func181.trans (congrArg some (by kernel_rfl))⟩
  f10 := ⟨Tryz.f208.name, by decide, Tryz.func208.trans (congrArg some (by kernel_rfl))⟩
  t0 := Tryz.underlying0
  a0 := Tryz.isAgg0
  z0 := Tryz.sizeOf0
  v0 := Tryz.zeroValue0
  t4 := Tryz.underlying4
  a4 := Tryz.isAgg4
  z4 := Tryz.sizeOf4
  v4 := Tryz.zeroValue4
  t23 := Tryz.underlying140
  a23 := Tryz.isAgg140
  z23 := Tryz.sizeOf140
  v23 := Tryz.zeroValue140
  t26 := Tryz.underlying9
  a26 := Tryz.isAgg9
  z26 := Tryz.sizeOf9
  v26 := Tryz.zeroValue9
  t27 := Tryz.underlying205
  a27 := Tryz.isAgg205
  z27 := Tryz.sizeOf205
  v27 := Tryz.zeroValue205
  t28 := Tryz.underlying206
  a28 := Tryz.isAgg206
  z28 := Tryz.sizeOf206
  v28 := Tryz.zeroValue206
  t33 := Tryz.underlying33
  a33 := Tryz.isAgg33
  z33 := Tryz.sizeOf33
  v33 := Tryz.zeroValue33 }
def Tryz.sorted180_ren : Go.Shelf.Ren := ⟨fun | 6 => 180 | 8 => 206 | 9 => 207 | 11 => 228 | 13 => 230 | 12 => 229 | 23 => 252 | 24 => 233 | 14 => 243 | 15 => 244 | 16 => 245 | 17 => 246 | 18 => 247 | 19 => 248 | 20 => 249 | 21 => 250 | 22 => 251 | 25 => 259 | 26 => 260 | 27 => 261 | 28 => 262 | 29 => 263 | 30 => 264 | 31 => 267 | n => n, fun | 26 => 9 | 28 => 206 | 24 => 38 | 0 => 0 | 3 => 3 | 37 => 196 | 48 => 217 | 50 => 237 | 4 => 4 | 40 => 271 | 39 => 270 | 45 => 147 | 5 => 5 | 9 => 9 | 51 => 282 | 55 => 286 | 57 => 292 | 58 => 127 | 33 => 33 | n => n, fun | n => n⟩
theorem Tryz.sorted180 : Go.Proofs.SlLaysZ.n6 Tryz.prog Tryz.sorted180_ren := {
  mixed := by kernel_rfl
  f6 := ⟨Tryz.f180.name, by decide, Tryz.func180.trans (congrArg some (by kernel_rfl))⟩
  f8 := ⟨Tryz.f206.name, by decide, Tryz.func206.trans (congrArg some (by kernel_rfl))⟩
  f11 := ⟨Tryz.f228.name, by decide, Tryz.func228.trans (congrArg some (by kernel_rfl))⟩
  t0 := Tryz.underlying0
  a0 := Tryz.isAgg0
  z0 := Tryz.sizeOf0
  v0 := Tryz.zeroValue0
  t24 := Tryz.underlying38
  a24 := Tryz.isAgg38
  z24 := Tryz.sizeOf38
  v24 := Tryz.zeroValue38
  t26 := Tryz.underlying9
  a26 := Tryz.isAgg9
  z26 := Tryz.sizeOf9
  v26 := Tryz.zeroValue9
  t28 := Tryz.underlying206
  a28 := Tryz.isAgg206
  z28 := Tryz.sizeOf206
  v28 := Tryz.zeroValue206
  i26 := by kernel_rfl }
def Tryz.sort207_ren : Go.Shelf.Ren := ⟨fun | 6 => 207 | 8 => 230 | 9 => 229 | 19 => 252 | 20 => 233 | 21 => 243 | 22 => 244 | 23 => 245 | 24 => 246 | 25 => 247 | 26 => 248 | 27 => 249 | 28 => 250 | 29 => 251 | 36 => 259 | 31 => 260 | 32 => 261 | 37 => 262 | 38 => 263 | 39 => 264 | 41 => 267 | n => n, fun | 27 => 38 | 29 => 9 | 3 => 3 | 32 => 196 | 26 => 38 | 0 => 0 | 44 => 217 | 46 => 237 | 4 => 4 | 36 => 271 | 35 => 270 | 41 => 147 | 5 => 5 | 9 => 9 | 53 => 282 | 57 => 286 | 63 => 292 | 64 => 127 | n => n, fun | n => n⟩
theorem Tryz.sort207 : Go.Proofs.SlLaysM.n6 Tryz.prog Tryz.sort207_ren := {
  mixed := by kernel_rfl
  f6 := ⟨Tryz.f207.name, by decide, Tryz.func207.trans (congrArg some (by kernel_rfl))⟩
  f8 := Tryz.func230.trans (congrArg some (by kernel_rfl))
  f9 := ⟨Tryz.f229.name, by decide, Tryz.func229.trans (congrArg some (by kernel_rfl))⟩
  f19 := Tryz.func252.trans (congrArg some (by kernel_rfl))
  f20 := Tryz.func233.trans (congrArg some (by kernel_rfl))
  f21 := ⟨Tryz.f243.name, by decide, Tryz.func243.trans (congrArg some (by kernel_rfl))⟩
  f22 := ⟨Tryz.f244.name, by decide, Tryz.func244.trans (congrArg some (by kernel_rfl))⟩
  f23 := ⟨Tryz.f245.name, by decide, Tryz.func245.trans (congrArg some (by kernel_rfl))⟩
  f24 := ⟨Tryz.f246.name, by decide, Tryz.func246.trans (congrArg some (by kernel_rfl))⟩
  f25 := ⟨Tryz.f247.name, by decide, Tryz.func247.trans (congrArg some (by kernel_rfl))⟩
  f26 := ⟨Tryz.f248.name, by decide, Tryz.func248.trans (congrArg some (by kernel_rfl))⟩
  f27 := ⟨Tryz.f249.name, by decide, Tryz.func249.trans (congrArg some (by kernel_rfl))⟩
  f28 := ⟨Tryz.f250.name, by decide, Tryz.func250.trans (congrArg some (by kernel_rfl))⟩
  f29 := ⟨Tryz.f251.name, by decide, Tryz.func251.trans (congrArg some (by kernel_rfl))⟩
  f31 := Tryz.func260.trans (congrArg some (by kernel_rfl))
  f32 := Tryz.func261.trans (congrArg some (by kernel_rfl))
  f36 := ⟨Tryz.f259.name, by decide, Tryz.func259.trans (congrArg some (by kernel_rfl))⟩
  f37 := ⟨Tryz.f262.name, by decide, Tryz.func262.trans (congrArg some (by kernel_rfl))⟩
  f38 := ⟨Tryz.f263.name, by decide, Tryz.func263.trans (congrArg some (by kernel_rfl))⟩
  f39 := ⟨Tryz.f264.name, by decide, Tryz.func264.trans (congrArg some (by kernel_rfl))⟩
  f41 := ⟨Tryz.f267.name, by decide, Tryz.func267.trans (congrArg some (by kernel_rfl))⟩
  t0 := Tryz.underlying0
  a0 := Tryz.isAgg0
  z0 := Tryz.sizeOf0
  v0 := Tryz.zeroValue0
  t3 := Tryz.underlying3
  a3 := Tryz.isAgg3
  z3 := Tryz.sizeOf3
  v3 := Tryz.zeroValue3
  t4 := Tryz.underlying4
  a4 := Tryz.isAgg4
  z4 := Tryz.sizeOf4
  v4 := Tryz.zeroValue4
  t5 := Tryz.underlying5
  a5 := Tryz.isAgg5
  z5 := Tryz.sizeOf5
  v5 := Tryz.zeroValue5
  t9 := Tryz.underlying9
  a9 := Tryz.isAgg9
  z9 := Tryz.sizeOf9
  v9 := Tryz.zeroValue9
  t26 := Tryz.underlying38
  a26 := Tryz.isAgg38
  z26 := Tryz.sizeOf38
  v26 := Tryz.zeroValue38
  t27 := Tryz.underlying38
  a27 := Tryz.isAgg38
  z27 := Tryz.sizeOf38
  v27 := Tryz.zeroValue38
  t29 := Tryz.underlying9
  a29 := Tryz.isAgg9
  z29 := Tryz.sizeOf9
  v29 := Tryz.zeroValue9
  t32 := Tryz.underlying196
  a32 := Tryz.isAgg196
  z32 := Tryz.sizeOf196
  v32 := Tryz.zeroValue196
  t35 := Tryz.underlying270
  a35 := Tryz.isAgg270
  z35 := Tryz.sizeOf270
  v35 := Tryz.zeroValue270
  t36 := Tryz.underlying271
  a36 := Tryz.isAgg271
  z36 := Tryz.sizeOf271
  v36 := Tryz.zeroValue271
  t41 := Tryz.underlying147
  a41 := Tryz.isAgg147
  z41 := Tryz.sizeOf147
  v41 := Tryz.zeroValue147
  t44 := Tryz.underlying217
  a44 := Tryz.isAgg217
  z44 := Tryz.sizeOf217
  v44 := Tryz.zeroValue217
  t46 := Tryz.underlying237
  a46 := Tryz.isAgg237
  z46 := Tryz.sizeOf237
  v46 := Tryz.zeroValue237
  t53 := Tryz.underlying282
  a53 := Tryz.isAgg282
  z53 := Tryz.sizeOf282
  v53 := Tryz.zeroValue282
  t57 := Tryz.underlying286
  a57 := Tryz.isAgg286
  z57 := Tryz.sizeOf286
  v57 := Tryz.zeroValue286
  t63 := Tryz.underlying292
  a63 := Tryz.isAgg292
  z63 := Tryz.sizeOf292
  v63 := Tryz.zeroValue292
  t64 := Tryz.underlying127
  a64 := Tryz.isAgg127
  z64 := Tryz.sizeOf127
  v64 := Tryz.zeroValue127 }
open Go.RowKit Go.Maps Go.Sort in
theorem Tryz.sorts180 (m : Nat) : AnyZ.SortsIn Tryz.prog Tryz.sorted180_ren Fence.wide m :=
  ⟨fun blk off cap ss W hH hblk hsz => callsIn_wide.2 (AnyM.slices_Sort_string Tryz.sort207 blk off cap ss W hH hblk hsz),
   fun p cap W => callsIn_wide.2 (AnyM.slices_Sort_string_none Tryz.sort207 p cap W)⟩
open Go.RowKit Go.Maps Go.Sort in
theorem Tryz.maps_Keys_181 (mb : Option Nat) (W : World) : CallsIn Fence.wide 5 Tryz.prog 181 #[.map mb] W fun e w' => e = .returned (.func (.func 208) #[] #[.pointer (some ⟨W.heap.size, 0, none⟩)]) ∧ w' = W.alloc (.cells #[.map mb] 140) :=
  AnyZ.keys_in Tryz.keys181 Fence.wide 5 trivial rfl mb W
open Go.RowKit Go.Maps Go.Sort in
theorem Tryz.slices_Sorted_keys_180_181 {H : Type} (b nn : Nat) (D0 : DataW H) (R : Value → Option (DataW H × List MemPlace)) (w : World) (hown : w.ownsMap Tryz.prog 9 R b nn D0) (hmax : Maps.size D0 ≤ maxLen) (hbytes : Maps.size D0 * 16 ≤ 140737488355328) :
    CallsIn Fence.wide 5 Tryz.prog 180 #[.func (.func 208) #[] #[.pointer (some ⟨w.heap.size, 0, none⟩)]] (w.alloc (.cells #[.map (some b)] 140)) fun e w' => ∃ (v : Value) (ss : List (List UInt8)), e = .returned v ∧ ss.Perm (strKeys D0) ∧
      w'.ownsRow (w.alloc (.cells #[.map (some b)] 140)).heap.size 9 1 v ss.length ((ss.mergeSort (fun x y => decide (x ≤ y))).map encStr) ∧ (v = .slice none 0 0 ↔ ss = []) ∧ Below (w.alloc (.cells #[.map (some b)] 140)).heap.size (w.alloc (.cells #[.map (some b)] 140)) w' := by
  have hbl := hown.lt
  have hseq : SeqGives Fence.wide 2 Tryz.prog 208 #[.pointer (some ⟨w.heap.size, 0, none⟩)] encStr (fun ss => ss.Perm (strKeys D0)) (Maps.size D0) (w.alloc (.cells #[.map (some b)] 140)) :=
    AnyZ.keys_gives (ρ := Tryz.keys181_ren) { Tryz.keys181 with } Fence.wide _ trivial rfl (by omega) w.heap.size b nn D0 _ (by simp) (by simp) (by
      obtain ⟨es, clock, hb, Ft, hs, hD⟩ := hown
      exact ⟨es, clock, (Below.heap_alloc _ _ b hbl).trans hb, Ft, hs, hD⟩)
  exact AnyZ.sorted_in Tryz.sorted180 Fence.wide 5 trivial trivial trivial trivial rfl (by omega) (Tryz.sorts180 _) (enters_of Tryz.func207 (by kernel_rfl) rfl) 208 #[.pointer (some ⟨w.heap.size, 0, none⟩)] trivial (enters_of Tryz.func208 (by kernel_rfl) rfl) _ _ hmax hbytes _ hseq
end Go.Proofs
namespace Go.Proofs.YtdefaeieiaegaaaGreatDoor.NmO
open Go.RowKit Go.Shelf Go.Maps
open ExM NmM Kit ExL ExV ExN NmV
set_option linter.unusedVariables false
attribute [local go_sem] Oper.semAt_some
def lits (l : List Nm) : List Lit := (bare l).map fun s => Lit.string s.data.toList
/-- The set of the names that came, as a datum. -/
def seenD {H : Type} (l : List Nm) : DataW H := setOf (.lit (.bool true)) (lits l)
theorem seenD_snoc {H : Type} (pre : List Nm) (x : Nm) : seenD (H := H) (pre ++ [x]) = (seenD pre).put (.string x.1.data.toList) (.lit (.bool true)) := by
  unfold seenD setOf lits
  rw [bare_append, List.map_append, List.foldl_append]; rfl
def bytesL (l : List ByteArray) : List Bs := l.map fun s => s.data.toList
theorem has_seen {H : Type} (l : List Nm) (x : Bs) : has (seenD (H := H) l) (.string x) = true ↔ x ∈ bytesL (bare l) := by
  unfold seenD
  rw [has_setOf _ _ _ (fun y hy => by
    unfold lits at hy
    obtain ⟨s, _, rfl⟩ := List.mem_map.1 hy
    trivial), List.any_eq_true]
  unfold lits bytesL
  constructor
  · rintro ⟨y, hy, he⟩
    obtain ⟨s, hs, rfl⟩ := List.mem_map.1 hy
    have e : s.data.toList = x := by simpa [Lit.sameKey] using he
    exact List.mem_map.2 ⟨s, hs, e⟩
  · intro h
    obtain ⟨s, hs, rfl⟩ := List.mem_map.1 h
    exact ⟨_, List.mem_map.2 ⟨s, hs, rfl⟩, by simp [Lit.sameKey]⟩
theorem sorted_seen {H : Type} {w : World} {R : Value → Option (DataW H × List MemPlace)} {b n : Nat} {l : List Nm} (hown : w.ownsMap Tryz.prog 9 R b n (seenD l)) {ss : List Bs} (hp : ss.Perm (strKeys (seenD (H := H) l))) :
    ss.mergeSort (fun x y => decide (x ≤ y)) = rise (bytesL (bare l)) ∧ ss.length = (rise (bytesL (bare l))).length := by
  have hc : Collected (seenD (H := H) l) (fun _ => false) (rise (bytesL (bare l))) := ⟨rise_nodup _, fun x => by rw [rise_mem, has_seen]; simp⟩
  have h1 := hc.perm hown (string_keyed Tryz.underlying9) Tryz.underlying9 (fun _ => rfl)
  have h2 : ss.Perm (rise (bytesL (bare l))) := hp.trans h1.symm
  exact ⟨rise_unique _ _ (h2.nodup_iff.2 (rise_nodup _)) (fun x => by rw [h2.mem_iff, rise_mem]), h2.length_eq⟩
/-- What Of answers. -/
def ofL (x : Ex) : List Bs := if x.checkE = 0 then rise (bytesL (Ex.refs x)) else []
def StrsOut (L : List Bs) (R : Int) (w : World) (e : Ending) (w' : World) : Prop :=
  ∃ v : Value, e = .returned (.tuple #[v, .int .i64 R]) ∧ w'.ownsRow w.heap.size 9 1 v L.length (L.map encStr) ∧ Below w.heap.size w w'
theorem boxP {w : World} (o0 o1 o2 : Obj) : (((w.alloc o0).alloc o1).alloc o2).heap[w.heap.size]? = some o0 ∧ (((w.alloc o0).alloc o1).alloc o2).heap[w.heap.size + 1]? = some o1 ∧ (((w.alloc o0).alloc o1).alloc o2).heap[w.heap.size + 1 + 1]? = some o2 := by
  have a0 := World.alloc_heap_new w o0
  have a1 := World.alloc_heap_new (w.alloc o0) o1
  have a2 := World.alloc_heap_new ((w.alloc o0).alloc o1) o2
  simp only [World.size_alloc] at a1 a2
  have k := fun (v : World) (o : Obj) (b : Nat) (x : Obj) (h : v.heap[b]? = some x) => ((b_new v o).block b (Array.getElem?_eq_some_iff.1 h).1).trans h
  exact ⟨k _ _ _ _ (k _ _ _ _ a0), k _ _ _ _ a1, a2⟩
set_option maxRecDepth 100000 in
set_option maxHeartbeats 4000000 in
theorem of_any (x : Ex) (d : Nd) (A : Option Addr) (m c : Nat) (w : World) (his : Is w x d A m) (hT : Tab w) :
    Calls Tryz.prog 136 #[.agg #[.int .i64 d.op, .int .i64 d.k, .int .i64 d.n, .string d.s, .string d.nm, .slice A m c]] w (StrsOut (ofL x) x.checkE w) := by
  refine (callsIn_wide (n := 6)).1 ?_
  obtain ⟨R, hR⟩ : ∃ R, x.checkE = R := ⟨_, rfl⟩
  have hx6 : R = 0 → x.nodes ≤ 60 := fun h => (checkE_zero (by rw [hR, h])).1
  have hL : ofL x = if R = 0 then rise (bytesL (Ex.refs x)) else [] := by unfold ofL; rw [hR]
  have hrl := refs_len x
  rw [hR]
  have hck := fun V (hb : Below w.heap.size w V) => ExC.check_any x d A m c V (his.below hb) (hT.below hb)
  rw [hR] at hck
  have HC := Lib.hid hck
  have HIs := Lib.hid his
  have HL := Lib.hid hL
  have HX := Lib.hid hx6
  have hmm := @run_makeMap Tryz.prog
  clear his hR hT hck hL hx6
  refine callsIn_of_wp_marks Tryz.func136 rfl trivial ?_ rfl
  simp only [Tryz.ntmps136, List.size_toArray, List.length_cons, List.length_nil, Nat.reduceAdd, Nat.reduceSub, Array.replicate_succ, Array.replicate_zero, List.push_toArray, List.append_toArray, List.nil_append, List.cons_append]
  gi_wp2_with fail
  refine ⟨trivial, ?_⟩
  refine ((callsIn_wide (n := 5)).2 (HC.out _ (b_new w _))).mono ?_
  rintro e w1 ⟨rfl, hb⟩
  have k0 : Box w1 w.heap.size d A m c := (Box.new w d A m c).below hb
  have hb1 : Below w.heap.size w w1 := b_then hb
  obtain ⟨c0, c1, c2, c3, c4, c5⟩ := k0.cells
  have hl0 := k0.lt
  have HB1 := Lib.hid hb1
  clear hb hb1 k0
  by_cases h0 : R = 0
  · subst h0
    have hL := HL.out
    rw [if_pos rfl] at hL
    have HL2 := Lib.hid hL
    have h60 := HX.out rfl
    clear hL HL HX
    gi_wp2_with (refine ⟨trivial, ?_⟩; gi_at_call 179; refine (refs_in Fence.wide _ trivial rfl d A m c _).mono ?_; rintro e w' ⟨rfl, rfl⟩)
    have hm0 := World.ownsMap_made w1 Tryz.prog 9 (plainElem (H := Unit) Tryz.prog 4)
    have hbx := boxP (w := w1) (.map #[] 0) (.cells #[.map (some w1.heap.size)] 140) (.cells #[.int .i64 d.op, .int .i64 d.k, .int .i64 d.n, .string d.s, .string d.nm, .slice A m c] 50)
    have hbB : Below w.heap.size w (((w1.alloc (.map #[] 0)).alloc (.cells #[.map (some w1.heap.size)] 140)).alloc (.cells #[.int .i64 d.op, .int .i64 d.k, .int .i64 d.n, .string d.s, .string d.nm, .slice A m c] 50)) := HB1.out.trans ((b_more (b_more (b_new _ _) _) _).mono HB1.out.size)
    have hm1 := (hm0.alloc (.cells #[.map (some w1.heap.size)] 140)).alloc (.cells #[.int .i64 d.op, .int .i64 d.k, .int .i64 d.n, .string d.s, .string d.nm, .slice A m c] 50)
    obtain ⟨W0, hW0⟩ : ∃ W0, (((w1.alloc (.map #[] 0)).alloc (.cells #[.map (some w1.heap.size)] 140)).alloc (.cells #[.int .i64 d.op, .int .i64 d.k, .int .i64 d.n, .string d.s, .string d.nm, .slice A m c] 50)) = W0 := ⟨_, rfl⟩
    rw [hW0] at hbx hbB hm1 ⊢
    have hsz : W0.heap.size = w1.heap.size + 3 := by rw [← hW0]; simp
    have hls := HB1.out.size
    clear hW0 hm0 c0 c1 c2 c3 c4 c5
    have hsz1 : w1.heap.size + 3 ≤ W0.heap.size := by omega
    have hsz2 : W0.heap.size ≤ w1.heap.size + 3 := by omega
    clear hsz
    obtain ⟨_, hq1, hq2⟩ := hbx
    refine wpIn_rangeFunc_ownG rfl (by decide) (gf := 204) (lb := #[.pointer (some ⟨w1.heap.size + 1 + 1, 0, none⟩)]) rfl trivial (enters_of Tryz.func204 (by kernel_rfl) rfl)
      (refs_stops Fence.wide rfl trivial trivial rfl _ (w1.heap.size + 1 + 1) w W0 x d A m c HIs.out hbB hq2) Kp.trans (fun W l o o' hl ho hc _ => kp_putObj W l o o' (by omega) ho hc) (Below.refl _ _) (fun _ => rfl)
      (fun pre W => ((W.cell? ⟨w1.heap.size + 1, 0, none⟩ = some (.map (some w1.heap.size))) ∧ W.ownsMap Tryz.prog 9 (plainElem (H := Unit) Tryz.prog 4) w1.heap.size pre.length (seenD pre)) ∧ Below w.heap.size w W)
      (fun _ _ _ => False)
      (OwnFrom.and (fun s A B row hs hg hr => ⟨cell_kept hs.1 hg (fun r e => (hr r e).2), hs.2.kept hg (fun e => by have := (hr _ e.symm).1; omega)⟩) (ownFrom_below (Nat.le_refl _) (by omega)))
      (fun _ _ _ _ _ hs _ _ => hs)
      ⟨⟨Boxed.cell (t := 140) hq1, hm1⟩, hbB⟩
      (fun y => { tmps := #[.agg #[.int .i64 d.op, .int .i64 d.k, .int .i64 d.n, .string d.s, .string d.nm, .slice A m c], .pointer (some ⟨w.heap.size, 0, none⟩), .slice none 0 0, .int .i64 0, .int .i64 0, .pointer (some ⟨w1.heap.size + 1, 0, none⟩), .string y.1, .agg #[.int .i64 d.op, .int .i64 d.k, .int .i64 d.n, .string d.s, .string d.nm, .slice A m c], .int .i64 0, .int .i64 0, .bool false, undef, .map (some w1.heap.size), .agg #[.int .i64 d.op, .int .i64 d.k, .int .i64 d.n, .string d.s, .string d.nm, .slice A m c], .func (.func 204) #[] #[.pointer (some ⟨w1.heap.size + 1 + 1, 0, none⟩)], .string y.1, undef, undef, undef, undef, undef], defers := [] }) ?assign ?body ?done ?stop
    case assign =>
      intro l y W K hK
      gi_wp2
      simpa [NmV.encs] using hK
    case body =>
      rintro l pre y W ⟨⟨hc, hown⟩, hB⟩ hlt
      gi_wp2_with (gi_at_mapUpdate; refine wpListIn_mapUpdate_own _ rfl _ _ _ 140 rfl 9 4 (string_keyed Tryz.underlying9) Tryz.underlying140 _ w1.heap.size pre.length _ rfl hown (by unfold maxLen; omega) _ _ _ rfl rfl (WideMaps.keyOf_string_mk Tryz.underlying9 y.2) _ [] (plainElem_bool Tryz.underlying4 true) ?_; intro w2 hown1 hgrow1)
      obtain ⟨es, ck, hh, _⟩ := hown
      have hwB := hB.size
      exact ⟨KeepsFrom.of_grownBy hgrow1 (fun j e => by cases e; omega), ⟨(Below.refl _ W).grown hgrow1 hB.size (fun k e => by cases e; exact hls), fun b o hb ho _ => by
          rw [hgrow1.block b (Array.getElem?_eq_some_iff.1 ho).1 (fun e => by cases e; omega)]; exact ho⟩,
        ⟨cell_kept hc hgrow1 (fun r e => by cases e; exact ⟨_, hh, rfl⟩), by rw [seenD_snoc, List.length_append]; exact hown1⟩, hB.grown hgrow1 hB.size (fun k e => by cases e; exact hls)⟩
    case done =>
      rintro D ys W hD hys ⟨⟨hc, hown⟩, hB⟩ hK
      have hyl : ys.length ≤ 60 := by
        have e1 : ys.length = (Ex.refs x).length := by rw [← hys, bare_len]
        omega
      have hsl := hown.size_le
      have hfK : Fence.wide.fn 181 := trivial
      have hfS : Fence.wide.fn 180 := trivial
      have hKb := (Array.getElem?_eq_some_iff.1 hK).1
      have HY := Lib.hid hys
      have HO := Lib.hid hown
      clear hys
      gi_wp2_with (first | (gi_at_call 181; refine (Tryz.maps_Keys_181 _ _).mono ?_; rintro e w' ⟨rfl, rfl⟩) | (gi_at_call 180; refine (Tryz.slices_Sorted_keys_180_181 w1.heap.size ys.length (seenD ys) _ W HO.out (by unfold maxLen; omega) (by omega)).mono ?_; rintro e w3 ⟨v, ss, rfl, hS, hrow, hnil, hb3⟩))
      have hK2 : (W.alloc (.cells #[.map (some w1.heap.size)] 140)).heap[D]? = some (.deferred (some [])) := ((b_new W _).block D hKb).trans hK
      have hK3 : w3.heap[D]? = some (.deferred (some [])) := (hb3.block D (by simp; omega)).trans hK2
      refine ⟨by simp, .inl ⟨_, _, rfl, run_takeDeferred hK3, ?_⟩⟩
      obtain ⟨hs1, hs2⟩ := sorted_seen HO.out hS
      rw [HY.out] at hs1 hs2
      rw [hs1, hs2] at hrow
      have hbW : Below w.heap.size w w3 := hB.trans ((b_then hb3).mono hB.size)
      refine ⟨_, results_tmp2 rfl _ _ _, v, rfl, ?_, hbW.trans (belowK_b (w := w) (Nat.le_refl _) w3 D _ _ (by omega) hK3 rfl rfl)⟩
      rw [HL2.out]
      have hsW := hB.size
      exact ownsRow_putObj (ownsRow_base_a hrow (by simp; omega)) _ hK3 rfl
    case stop =>
      rintro D cd pre W hD hpre h hK
      exact h.elim
  · have t1 : (R != 0) = true := bne_iff_ne.2 h0
    have hL := HL.out
    rw [if_neg h0] at hL
    have HL2 := Lib.hid hL
    clear h0 hL HL HX
    gi_wp2_with fail
    refine ⟨_, results_tmp2 rfl _ _ _, ?_⟩
    exact ⟨.slice none 0 0, rfl, by rw [HL2.out]; exact World.ownsRow_nil _ _ _ _, HB1.out⟩
end Go.Proofs.YtdefaeieiaegaaaGreatDoor.NmO
namespace Go.Proofs.YtdefaeieiaegaaaGreatDoor.NmA
open Go.RowKit
open ExM NmM Kit ExL ExP ExV NmC NmP NmR
set_option linter.unusedVariables false
/-- A list of strings that a call has made. -/
def AskOut (L : List ByteArray) (w : World) (e : Ending) (w' : World) : Prop :=
  ∃ v : Value, e = .returned v ∧ w'.ownsRow w.heap.size 9 1 v L.length (strV L) ∧ Below w.heap.size w w'
structure AInv (w : World) (L : List ByteArray) (v : Value) (wr : World) : Prop where
  own : wr.ownsRow (w.heap.size + 1) 9 1 v L.length (strV L)
  below : Below w.heap.size w wr
  lt : w.heap.size < wr.heap.size
theorem own_src {w : World} {base : Nat} {v : Value} {L : List ByteArray} (h : w.ownsRow base 9 1 v L.length (strV L)) : (v = .slice none 0 0 ∧ L = []) ∨ ∃ g cap, v = .slice (some ⟨g, 0, none⟩) L.length cap ∧ ∀ (j : Nat) (u : Value), (strV L)[j]? = some u → w.cell? ((⟨g, 0, none⟩ : Addr).add j) = some u := by
  rcases h.2 with ⟨h1, h2⟩ | ⟨g, cap, cur, h1, _⟩
  · exact .inl ⟨h1, List.eq_nil_of_length_eq_zero h2⟩
  · subst h1
    refine .inr ⟨g, cap, rfl, fun j u hj => ?_⟩
    have hl := (List.getElem?_eq_some_iff.1 hj).1
    rw [strV_len] at hl
    rw [ExP.add_block, h.cellAt j (by omega), hj]
set_option maxHeartbeats 4000000 in
set_option maxRecDepth 100000 in
theorem asked_any : ∀ (x : Ex) (d : Nd) (A : Option Addr) (m c : Nat) (w : World), x.nodes ≤ 1048576 → Is w x d A m →
    Calls Tryz.prog 153 #[.agg #[.int .i64 d.op, .int .i64 d.k, .int .i64 d.n, .string d.s, .string d.nm, .slice A m c]] w (AskOut (Ex.refs x) w) := by
  obtain ⟨i0, hi, hz0, hz1, hz2⟩ := info_parts infoStr
  refine Ex.ind fun d l ih => ?_
  intro d' A m c w hx his
  rw [is_mk] at his
  obtain ⟨rfl, rfl, ⟨hm, hs1, hs2⟩, his⟩ := his
  have hrn := refs_len (Ex.mk d' l)
  obtain ⟨p0, hp0⟩ : ∃ p0, (if d'.op = 2 then [d'.nm] else []) = p0 := ⟨_, rfl⟩
  have hrf : Ex.refs (.mk d' l) = p0 ++ refsL l := by rw [refs_mk, hp0]
  rw [hrf] at hrn ⊢
  rw [List.length_append] at hrn
  rw [nodes_mk] at hx hrn
  have hlen := len_nodesL l
  have hpl : p0.length ≤ 1 := by rw [← hp0]; split <;> simp
  have HS := Lib.hid his
  have HI := Lib.hid ih
  clear his ih hrf hs1 hs2
  unfold maxLen at hm
  by_cases hop : d'.op = 2
  · rw [if_pos hop] at hp0
    have t0 : (d'.op == 2) = true := beq_iff_eq.2 hop
    have hV0 : ∀ v' w1 o1 o2, w1.ownsRow (w.heap.size + 1) 9 1 v' (0 + 1) ([] ++ [.string d'.nm]) → ((w.alloc o1).alloc o2).grownBy w1 (Value.slice none 0 0).ownBlock → AInv w (p0 ++ refsL (l.take 0)) v' w1 := fun v' w1 o1 o2 h1 h2 => by
      refine ⟨?_, (b_more (b_new w o1) o2).grown h2 (by simp; omega) (fun k e => by cases e), by have := h2.size; simp at this; omega⟩
      rw [← hp0, List.take_zero, refsL_nil]
      exact h1
    have HV0 := Lib.hid hV0
    clear hp0 hop hV0
    go_enter Tryz.func153, Tryz.ntmps153
    go_wp2_with (at_builtin; refine wpList_append_own _ rfl _ _ 38 rfl (w.heap.size + 1) 9 i0 (.string ⟨#[]⟩) 1 16 Tryz.underlying38 hi hz0 hz1 hz2 rfl (by decide) (.slice none 0 0) 0 [] rfl (World.ownsRow_nil _ _ _ _) ⟨w.heap.size + 1, 0, none⟩ 1 1 [.string d'.nm] rfl rfl ?c1 ?c2 ?c3 ?c4 ?c5 ?_)
    case c1 =>
      intro j u hj
      match j, hj with
      | 0, hj => simp at hj; subst hj; simp [Addr.add]
    case c2 => intro u hu; simp at hu; subst hu; rfl
    case c3 => decide
    case c4 => decide
    case c5 => simp
    intro v1 w1 hown hgrow _
    have hV := HV0.out v1 w1 _ _ hown hgrow
    have x5 : w1.cell? ⟨w.heap.size, 5, none⟩ = some (.slice A l.length c) := by
      rw [World.cell?_of_block (w := ((w.alloc (.cells #[.int .i64 d'.op, .int .i64 d'.k, .int .i64 d'.n, .string d'.s, .string d'.nm, .slice A l.length c] 50)).alloc (.cells #[.string d'.nm] 9))) (hgrow.block _ (by simp; omega) (fun e => by cases e))]
      simp
    have HV := Lib.hid hV
    clear hV hown hgrow HV0 t0
    go_wp2_with fail
    go_loopw [3, 5, 17] (fun v _ i wr => ∃ (k : Nat) (v' : Value), v' = v ∧ i = .int .i64 k ∧ k ≤ l.length ∧ AInv w (p0 ++ refsL (l.take k)) v' wr) (fun _ _ i _ => l.length - (intOf i).toNat)
    case atStart => exact ⟨0, _, rfl, rfl, Nat.zero_le _, HV.out⟩
    case round =>
      obtain ⟨k, v, rfl, rfl, hk, hI⟩ := hrel
      have HI2 := Lib.hid hI
      have hbs := hI.below.size
      have hwl := hI.lt
      by_cases hlt : k < l.length
      · obtain ⟨a, d2, B, m2, c2, rfl, hat, hi2⟩ := HS.out k hlt
        obtain ⟨h0, h1, h2, h3, h4, h5⟩ := hat.below hI.below
        have hal := cell_lt' h0
        have hc := HI.out _ (List.getElem_mem hlt) d2 B m2 c2 (wr.alloc (.cells #[.int .i64 d2.op, .int .i64 d2.k, .int .i64 d2.n, .string d2.s, .string d2.nm, .slice B m2 c2] 50)) (by have := nodes_mem (List.getElem_mem hlt); omega) ((hi2.below hI.below).alloc _)
        have e2 := refsL_at l k hlt
        have e3 := refsL_take l (k + 1)
        obtain ⟨M, hM⟩ : ∃ M, Ex.refs l[k] = M := ⟨_, rfl⟩
        obtain ⟨N, hN⟩ : ∃ N, p0 ++ refsL (l.take k) = N := ⟨_, rfl⟩
        rw [hM] at hc e2
        rw [e2, List.length_append] at e3
        have e4 : p0 ++ refsL (l.take (k + 1)) = N ++ M := by rw [e2, ← List.append_assoc, hN]
        have e5 : N.length = p0.length + (refsL (l.take k)).length := by rw [← hN, List.length_append]
        have hNM : N.length + M.length ≤ 1048577 := by omega
        rw [hN] at hI
        have HC := Lib.hid hc
        have HE4 := Lib.hid e4
        have HO := Lib.hid hI.own
        clear hc hi2 hat e2 e3 e4 e5 hM hN hI
        go_wp2_with fail
        refine HC.out.mono ?_; rintro e w2 ⟨v2, rfl, hown2, hb2⟩
        have hb3 : Below wr.heap.size wr w2 := b_then hb2
        have hs3 := hb3.size
        have ho1 := NmR.own_below HO.out hb3
        have HO1 := Lib.hid ho1
        have HB3 := Lib.hid hb3
        have HN2 : ∀ v' W', W'.ownsRow (w.heap.size + 1) 9 1 v' (N.length + M.length) (strV N ++ strV M) → w2.grownBy W' v.ownBlock → AInv w (p0 ++ refsL (l.take (k + 1))) v' W' := fun v' W' q1 q2 => by
          rw [HE4.out]
          refine ⟨by rw [List.length_append, strV_append]; exact q1, ?_, by have := q2.size; omega⟩
          exact ((HI2.out.below).trans (hb3.mono hbs)).grown q2 (by omega) (fun g e => by have := (HI2.out.own.lt g e).1; omega)
        have HN3 := Lib.hid HN2
        rcases own_src hown2 with ⟨rfl, hM0⟩ | ⟨g2, cap2, rfl, hsrc⟩
        · have hfin : AInv w (p0 ++ refsL (l.take (k + 1))) v w2 := HN3.out v w2 (by rw [hM0]; simpa [strV] using ho1) ⟨rfl, rfl, rfl, Nat.le_refl _, fun _ _ _ => rfl⟩
          have HF := Lib.hid hfin
          clear hfin HN2 HN3 hown2 hb2 hb3 hM0 h0 h1 h2 h3 h4 h5
          go_wp2_with (at_builtin; refine wpList_append_own_none rfl _ _ 38 rfl (w.heap.size + 1) 9 i0 1 Tryz.underlying38 hi v N.length (strV N) rfl ho1 rfl ?_)
          go_roundw
          case rel => exact ⟨k + 1, _, rfl, by go_num, by omega, HF.out⟩
          case measure => simp [intOf]; omega
        · clear HN2 hown2 hb2 hb3 h0 h1 h2 h3 h4 h5
          go_wp2_with (at_builtin; refine wpList_append_own _ rfl _ _ 38 rfl (w.heap.size + 1) 9 i0 (.string ⟨#[]⟩) 1 16 Tryz.underlying38 hi hz0 hz1 hz2 rfl (by decide) v N.length (strV N) rfl ho1 ⟨g2, 0, none⟩ M.length cap2 (strV M) rfl (by rw [strV_len]; omega) hsrc strV_one (by unfold maxLen; omega) (by omega) (by omega) ?_; intro v3 w3 hown3 hgrow3 _)
          have hF := HN3.out v3 w3 hown3 hgrow3
          have HF := Lib.hid hF
          clear hF hown3 hgrow3 hsrc ho1
          go_wp2_with fail
          go_roundw
          case rel => exact ⟨k + 1, _, rfl, by go_num, by omega, HF.out⟩
          case measure => simp [intOf]; omega
      · have hkl : k = l.length := by omega
        subst hkl
        clear HI2
        go_wp2_with fail
        go_ret
        rw [List.take_length] at hI
        exact ⟨_, rfl, own_base hI.own (by omega), hI.below⟩
  · rw [if_neg hop] at hp0
    have t0 : (d'.op == 2) = false := beq_eq_false_iff_ne.2 hop
    have hV0 : ∀ o1, AInv w (p0 ++ refsL (l.take 0)) (.slice none 0 0) (w.alloc o1) := fun o1 => by
      refine ⟨?_, b_new w o1, by simp⟩
      rw [← hp0, List.take_zero, refsL_nil]
      exact World.ownsRow_nil _ _ _ _
    have HV := Lib.hid (hV0 (.cells #[.int .i64 d'.op, .int .i64 d'.k, .int .i64 d'.n, .string d'.s, .string d'.nm, .slice A l.length c] 50))
    clear hp0 hop hV0
    go_enter Tryz.func153, Tryz.ntmps153
    go_wp2_with fail
    go_loopw [3, 5, 17] (fun v _ i wr => ∃ (k : Nat) (v' : Value), v' = v ∧ i = .int .i64 k ∧ k ≤ l.length ∧ AInv w (p0 ++ refsL (l.take k)) v' wr) (fun _ _ i _ => l.length - (intOf i).toNat)
    case atStart => exact ⟨0, _, rfl, rfl, Nat.zero_le _, HV.out⟩
    case round =>
      obtain ⟨k, v, rfl, rfl, hk, hI⟩ := hrel
      have HI2 := Lib.hid hI
      have hbs := hI.below.size
      have hwl := hI.lt
      by_cases hlt : k < l.length
      · obtain ⟨a, d2, B, m2, c2, rfl, hat, hi2⟩ := HS.out k hlt
        obtain ⟨h0, h1, h2, h3, h4, h5⟩ := hat.below hI.below
        have hal := cell_lt' h0
        have hc := HI.out _ (List.getElem_mem hlt) d2 B m2 c2 (wr.alloc (.cells #[.int .i64 d2.op, .int .i64 d2.k, .int .i64 d2.n, .string d2.s, .string d2.nm, .slice B m2 c2] 50)) (by have := nodes_mem (List.getElem_mem hlt); omega) ((hi2.below hI.below).alloc _)
        have e2 := refsL_at l k hlt
        have e3 := refsL_take l (k + 1)
        obtain ⟨M, hM⟩ : ∃ M, Ex.refs l[k] = M := ⟨_, rfl⟩
        obtain ⟨N, hN⟩ : ∃ N, p0 ++ refsL (l.take k) = N := ⟨_, rfl⟩
        rw [hM] at hc e2
        rw [e2, List.length_append] at e3
        have e4 : p0 ++ refsL (l.take (k + 1)) = N ++ M := by rw [e2, ← List.append_assoc, hN]
        have e5 : N.length = p0.length + (refsL (l.take k)).length := by rw [← hN, List.length_append]
        have hNM : N.length + M.length ≤ 1048577 := by omega
        rw [hN] at hI
        have HC := Lib.hid hc
        have HE4 := Lib.hid e4
        have HO := Lib.hid hI.own
        clear hc hi2 hat e2 e3 e4 e5 hM hN hI
        go_wp2_with fail
        refine HC.out.mono ?_; rintro e w2 ⟨v2, rfl, hown2, hb2⟩
        have hb3 : Below wr.heap.size wr w2 := b_then hb2
        have hs3 := hb3.size
        have ho1 := NmR.own_below HO.out hb3
        have HO1 := Lib.hid ho1
        have HB3 := Lib.hid hb3
        have HN2 : ∀ v' W', W'.ownsRow (w.heap.size + 1) 9 1 v' (N.length + M.length) (strV N ++ strV M) → w2.grownBy W' v.ownBlock → AInv w (p0 ++ refsL (l.take (k + 1))) v' W' := fun v' W' q1 q2 => by
          rw [HE4.out]
          refine ⟨by rw [List.length_append, strV_append]; exact q1, ?_, by have := q2.size; omega⟩
          exact ((HI2.out.below).trans (hb3.mono hbs)).grown q2 (by omega) (fun g e => by have := (HI2.out.own.lt g e).1; omega)
        have HN3 := Lib.hid HN2
        rcases own_src hown2 with ⟨rfl, hM0⟩ | ⟨g2, cap2, rfl, hsrc⟩
        · have hfin : AInv w (p0 ++ refsL (l.take (k + 1))) v w2 := HN3.out v w2 (by rw [hM0]; simpa [strV] using ho1) ⟨rfl, rfl, rfl, Nat.le_refl _, fun _ _ _ => rfl⟩
          have HF := Lib.hid hfin
          clear hfin HN2 HN3 hown2 hb2 hb3 hM0 h0 h1 h2 h3 h4 h5
          go_wp2_with (at_builtin; refine wpList_append_own_none rfl _ _ 38 rfl (w.heap.size + 1) 9 i0 1 Tryz.underlying38 hi v N.length (strV N) rfl ho1 rfl ?_)
          go_roundw
          case rel => exact ⟨k + 1, _, rfl, by go_num, by omega, HF.out⟩
          case measure => simp [intOf]; omega
        · clear HN2 hown2 hb2 hb3 h0 h1 h2 h3 h4 h5
          go_wp2_with (at_builtin; refine wpList_append_own _ rfl _ _ 38 rfl (w.heap.size + 1) 9 i0 (.string ⟨#[]⟩) 1 16 Tryz.underlying38 hi hz0 hz1 hz2 rfl (by decide) v N.length (strV N) rfl ho1 ⟨g2, 0, none⟩ M.length cap2 (strV M) rfl (by rw [strV_len]; omega) hsrc strV_one (by unfold maxLen; omega) (by omega) (by omega) ?_; intro v3 w3 hown3 hgrow3 _)
          have hF := HN3.out v3 w3 hown3 hgrow3
          have HF := Lib.hid hF
          clear hF hown3 hgrow3 hsrc ho1
          go_wp2_with fail
          go_roundw
          case rel => exact ⟨k + 1, _, rfl, by go_num, by omega, HF.out⟩
          case measure => simp [intOf]; omega
      · have hkl : k = l.length := by omega
        subst hkl
        clear HI2
        go_wp2_with fail
        go_ret
        rw [List.take_length] at hI
        exact ⟨_, rfl, own_base hI.own (by omega), hI.below⟩
end Go.Proofs.YtdefaeieiaegaaaGreatDoor.NmA
namespace Go.Proofs.YtdefaeieiaegaaaGreatDoor.NmI
open Go.RowKit
open ExM NmM Kit ExL ExP ExV NmC NmP NmR NmA NmO
set_option linter.unusedVariables false
theorem less_lt : ∀ (l m : List UInt8), Op.bytesLess l m = decide (l < m)
  | [], [] => by simp [Op.bytesLess]
  | [], _ :: _ => by simp [Op.bytesLess]
  | _ :: _, [] => by simp [Op.bytesLess]
  | a :: l, b :: m => by
    unfold Op.bytesLess
    rw [less_lt l m]
    rw [Bool.eq_iff_iff]
    simp only [Bool.or_eq_true, Bool.and_eq_true, decide_eq_true_eq, beq_iff_eq, List.cons_lt_cons_iff]
/-- Where all ahead of a place are not greater and the next one is, a text belongs there. -/
theorem place_at (s : Bs) : ∀ (M : List Bs) (k : Nat), k ≤ M.length → (∀ (j : Nat) (h : j < M.length), j < k → ¬ s < M[j]) → (∀ h : k < M.length, s < M[k]) → place s M = M.take k ++ s :: M.drop k
  | [], 0, _, _, _ => rfl
  | [], k + 1, h, _, _ => by simp at h
  | t :: r, 0, _, _, h3 => by
    have := h3 (by simp)
    unfold place; rw [if_pos (by simpa using this)]; rfl
  | t :: r, k + 1, h1, h2, h3 => by
    have h0 := h2 0 (by simp) (by omega)
    unfold place; rw [if_neg (by simpa using h0), place_at s r k (by simpa using h1) (fun j hj hk => by have := h2 (j + 1) (by simpa using hj) (by omega); simpa using this) (fun hk => by have := h3 (by simpa using hk); simpa using this)]
    simp
theorem sorted_at {M : List Bs} (h : M.Pairwise (· < ·)) {i j : Nat} (hi : i < M.length) (hj : j < M.length) (hij : i ≤ j) : M[i] ≤ M[j] := by
  rcases Nat.lt_or_ge i j with g | g
  · exact List.le_of_lt (List.pairwise_iff_getElem.1 h i j hi hj g)
  · have : i = j := by omega
    subst this; exact List.le_refl _
/-- A text's place, found from behind. -/
theorem place_found {M : List Bs} (h : M.Pairwise (· < ·)) (s : Bs) (k : Nat) (hk : k ≤ M.length) (h1 : ∀ hl : 0 < k, ¬ s < M[k - 1]) (h2 : ∀ hl : k < M.length, s < M[k]) : place s M = M.take k ++ s :: M.drop k :=
  place_at s M k hk (fun j hj hjk hlt => List.not_lt.2 (List.le_trans (sorted_at h hj (by omega) (by omega)) (List.not_lt.1 (h1 (by omega)))) hlt) h2
def mkB (b : Bs) : ByteArray := ⟨b.toArray⟩
def mkL (M : List Bs) : List ByteArray := M.map mkB
theorem mkL_len (M : List Bs) : (mkL M).length = M.length := List.length_map _
theorem mkB_of (s : ByteArray) : mkB s.data.toList = s := by cases s with | mk a => cases a; rfl
theorem strV_mkL (M : List Bs) : strV (mkL M) = M.map encStr := by unfold strV mkL; rw [List.map_map]; rfl
theorem hasB_mkL (M : List Bs) (s : ByteArray) : hasB (mkL M) s = decide (s.data.toList ∈ M) := by
  rw [Bool.eq_iff_iff, hasB_true, decide_eq_true_eq]
  unfold mkL
  rw [List.mem_map]
  constructor
  · rintro ⟨b, hb, e⟩
    rw [← e]; exact hb
  · intro h
    exact ⟨_, h, mkB_of s⟩
theorem bytesL_at (L : List ByteArray) (k : Nat) (h : k < L.length) : rise (bytesL (L.take (k + 1))) = ins (rise (bytesL (L.take k))) L[k].data.toList := by
  rw [take_at L k h]
  unfold bytesL
  rw [List.map_append]
  exact rise_snoc _ _
theorem own_take {w : World} {base : Nat} {g n cap k : Nat} {e : TypeId} {xs : List Value} (h : w.ownsRow base e 1 (.slice (some ⟨g, 0, none⟩) n cap) n xs) (hk : k ≤ n) : w.ownsRow base e 1 (.slice (some ⟨g, 0, none⟩) k cap) k (xs.take k) := by
  rcases h.2 with ⟨h1, _⟩ | ⟨g', cap', cur, h1, h2, h3, h4, h5, h6, h7⟩
  · cases h1
  · simp only [Value.slice.injEq, Option.some.injEq, Addr.mk.injEq, and_true, true_and] at h1
    obtain ⟨rfl, rfl⟩ := h1
    refine ⟨by rw [List.length_take, h.1]; omega, .inr ⟨g, cap, cur, rfl, h2, h3, by omega, h5, h6, ?_⟩⟩
    rw [← h7, List.take_take]; congr 1; omega
section
variable {P : Program} (w : World)
theorem step_append_own {ops : Array Oper} {o : Oper} {a : Act} {K : Act → World → Prop} {Q : Exit → Act → World → Prop} {E : Prop} (hgd : o.guard = none) (s x : Operand) (t : TypeId)
    (ho : o.op = .call { callee := .builtin .append, args := #[s, x], argTypes := #[t, t] })
    (base : Nat) (e : TypeId) (i : TypeInfo) (z : Value) (size bytes : Nat) (ht : P.underlying t = some (.slice e)) (hi : P.info? e = some i) (hz : i.zero = some z)
    (hsize : i.size = size) (hby : i.bytes = bytes) (hzs : z.cells.size = size) (hsz : 0 < size)
    (v : Value) (n : Nat) (xs : List Value) (hs : a.eval s = v) (hown : w.ownsRow base e size v n xs)
    (ad : Addr) (m c : Nat) (news : List Value) (hx : a.eval x = .slice (some ad) m c) (hl : news.length = m * size) (hnews : ∀ j u, news[j]? = some u → w.cell? (ad.add j) = some u) (h1 : ∀ u ∈ news, u.oneCell' = true)
    (h63 : n + m ≤ maxLen) (hbytes : (n + m) * bytes ≤ 140737488355328) (hbase : base ≤ w.heap.size)
    (h : ∀ v' w', w'.ownsRow base e size v' (n + m) (xs ++ news) → w.grownBy w' v.ownBlock → (v' = .slice none 0 0 ↔ v = .slice none 0 0 ∧ m = 0) → K (a.put o.dst v') w') :
    if Region.wanted o (yielded ops a.tmps) = true then Oper.wp P o a w K Q else E := by
  have hw : Region.wanted o (yielded ops a.tmps) = true := by simp [Region.wanted, hgd]
  rw [if_pos hw]
  exact wp_append_own w s x t ho base e i z size bytes ht hi hz hsize hby hzs hsz v n xs hs hown ad m c news hx hl hnews h1 h63 hbytes hbase h
theorem step_append_nil {ops : Array Oper} {o : Oper} {a : Act} {K : Act → World → Prop} {Q : Exit → Act → World → Prop} {E : Prop} (hgd : o.guard = none) (s x : Operand) (t : TypeId)
    (ho : o.op = .call { callee := .builtin .append, args := #[s, x], argTypes := #[t, t] })
    (base : Nat) (e : TypeId) (i : TypeInfo) (size : Nat) (ht : P.underlying t = some (.slice e)) (hi : P.info? e = some i)
    (v : Value) (n : Nat) (xs : List Value) (hs : a.eval s = v) (hown : w.ownsRow base e size v n xs) (hx : a.eval x = .slice none 0 0)
    (h : K (a.put o.dst v) w) : if Region.wanted o (yielded ops a.tmps) = true then Oper.wp P o a w K Q else E := by
  have hw : Region.wanted o (yielded ops a.tmps) = true := by simp [Region.wanted, hgd]
  rw [if_pos hw]
  have hrun := run_append_owned_none (P := P) (w := w) base t o.type e i size ht hi v n xs hown
  unfold Oper.wp execOp
  simp only [ho, resolve, invoke, builtin, Sem.run_bind, Sem.run_pure, Result.andThen_ok, List.map_toArray, List.map_cons, List.map_nil, hs, hx, hrun]
  exact h
end
/-- Between two texts. -/
structure RInv (w : World) (M : List Bs) (v : Value) (wr : World) : Prop where
  own : wr.ownsRow w.heap.size 9 1 v M.length (M.map encStr)
  nil : M = [] → v = .slice none 0 0
  below : Below w.heap.size w wr
def RiseOut (M : List Bs) (w : World) (e : Ending) (w' : World) : Prop := ∃ v : Value, e = .returned v ∧ w'.ownsRow w.heap.size 9 1 v M.length (M.map encStr) ∧ Below w.heap.size w w'
theorem enc_at (M : List Bs) (j : Nat) (h : j < M.length) : (M.map encStr)[j]? = some (.string (mkB M[j])) := by rw [List.getElem?_map, List.getElem?_eq_getElem h]; rfl
theorem enc_one {M : List Bs} : ∀ u ∈ M.map encStr, u.oneCell' = true := fun u hu => by
  obtain ⟨s, _, rfl⟩ := List.mem_map.1 hu; rfl
theorem ins_new {M : List Bs} {s : Bs} (h : s ∉ M) : ins M s = place s M := by unfold ins; rw [if_neg h]
theorem RInv.put {w wo w9 : World} {M : List Bs} {v v9 : Value} {s : ByteArray} {k : Nat} (h : RInv w M v wo) (hk : k ≤ M.length) (hp : place s.data.toList M = M.take k ++ s.data.toList :: M.drop k)
    (hown : w9.ownsRow w.heap.size 9 1 v9 (k + (1 + (M.length - k))) ((M.map encStr).take k ++ ([.string s] ++ (M.map encStr).drop k))) (hb : Below w.heap.size w w9) : RInv w (place s.data.toList M) v9 w9 := by
  have e1 : (place s.data.toList M).length = k + (1 + (M.length - k)) := by rw [place_len]; omega
  have e2 : (place s.data.toList M).map encStr = (M.map encStr).take k ++ ([.string s] ++ (M.map encStr).drop k) := by
    rw [hp, List.map_append, List.map_cons, List.map_take, List.map_drop]
    have : encStr s.data.toList = .string s := congrArg Value.string (mkB_of s)
    rw [this]; rfl
  refine ⟨by rw [e1, e2]; exact hown, fun h => ?_, hb⟩
  rw [h] at e1; simp at e1; omega
/-- The prefix of the row is there still behind what was appended elsewhere. -/
theorem own_still {wo w2 : World} {base g n cap k B : Nat} {xs : List Value} {o : Obj} (h : wo.ownsRow base 9 1 (.slice (some ⟨g, 0, none⟩) n cap) n xs) (hk : k ≤ n) (hB : B = wo.heap.size) (hg : (wo.drew.alloc o).grownBy w2 (some B)) : w2.ownsRow base 9 1 (.slice (some ⟨g, 0, none⟩) k cap) k (xs.take k) := by
  have h1 := own_below h (b_more (b_drew (Below.refl wo.heap.size wo)) o)
  have h2 := own_take h1 hk
  refine h2.kept hg (.inr fun e => ?_)
  have e' : g = B := by injection e
  have := (h.lt g rfl).2
  omega
theorem put_below {w wo w2 w3 : World} {o : Obj} {row row2 : Option Nat} (h : Below w.heap.size w wo) (h2 : (wo.drew.alloc o).grownBy w2 row) (hr : ∀ g, row = some g → w.heap.size ≤ g) (h3 : w2.grownBy w3 row2) (hr2 : ∀ g, row2 = some g → w.heap.size ≤ g) : Below w.heap.size w w3 := by
  have hs := h.size
  have h1 : Below w.heap.size w (wo.drew.alloc o) := h.trans ((b_more (b_drew (Below.refl wo.heap.size wo)) o).mono hs)
  have h4 := h1.grown h2 h1.size hr
  exact h4.grown h3 h4.size hr2
set_option maxHeartbeats 8000000 in
set_option maxRecDepth 100000 in
theorem rising_any (L : List ByteArray) (A : Option Addr) (c : Nat) (w : World) (hn : L.length ≤ 1048576) (h : SRow w A L) :
    Calls Tryz.prog 152 #[.slice A L.length c] w (RiseOut (rise (bytesL L)) w) := by
  obtain ⟨i0, hi, hz0, hz1, hz2⟩ := info_parts infoStr
  have HH := Lib.hid h
  clear h
  go_enter Tryz.func152, Tryz.ntmps152
  go_wp2_with fail
  go_loopw [3, 5, 6, 9] (fun v _ _ i wr => ∃ (k : Nat) (v' : Value), v' = v ∧ i = .int .i64 k ∧ k ≤ L.length ∧ RInv w (rise (bytesL (L.take k))) v' wr) (fun _ _ _ i _ => L.length - (intOf i).toNat)
  case atStart => exact ⟨0, _, rfl, rfl, Nat.zero_le _, ⟨World.ownsRow_nil _ _ _ _, fun _ => rfl, Below.refl _ _⟩⟩
  case round =>
    obtain ⟨i, v, rfl, rfl, hk, hI⟩ := hrel
    by_cases hlt : i < L.length
    · obtain ⟨g0, rfl, hc⟩ := HH.out i hlt
      have hg0 : g0 < w.heap.size := World.block_lt_of_cell? w _ hc
      have hc1 := (hI.below.cell (p := ⟨g0, i, none⟩) hg0).trans hc
      have hstep := bytesL_at L i hlt
      have hlen := rise_len (bytesL (L.take i))
      have hlb : (bytesL (L.take i)).length ≤ 1048576 := by unfold bytesL; rw [List.length_map, List.length_take]; omega
      have hsort := rise_sorted (bytesL (L.take i))
      obtain ⟨s, hs⟩ : ∃ s, L[i] = s := ⟨_, rfl⟩
      obtain ⟨M, hM⟩ : ∃ M, rise (bytesL (L.take i)) = M := ⟨_, rfl⟩
      rw [hM] at hI hstep hlen hsort
      rw [hs] at hc1 hstep
      have hn0 : M.length ≤ 1048576 := by omega
      have HS := Lib.hid hstep
      have HSo := Lib.hid hsort
      have HI := Lib.hid hI
      have hbs := hI.below.size
      obtain ⟨A1, c1, hv, hrow⟩ := SRow.of_own (L := mkL M) (by rw [mkL_len, strV_mkL]; exact hI.own)
      rw [mkL_len] at hv
      subst hv
      have hh := holds_any (mkL M) s A1 c1 wr (by rw [mkL_len]; exact hn0) hrow
      rw [mkL_len, hasB_mkL] at hh
      have HHo := Lib.hid hh
      clear hh hc hstep hlen hlb hM hs hI hsort hrow
      go_wp2_with fail
      refine HHo.out.mono ?_; rintro e w1 ⟨rfl, rfl⟩
      by_cases hin : s.data.toList ∈ M
      · have t1 : decide (s.data.toList ∈ M) = true := decide_eq_true hin
        have hfin : RInv w (rise (bytesL (L.take (i + 1)))) (.slice A1 M.length c1) wr := by
          rw [HS.out]; unfold ins; rw [if_pos hin]; exact HI.out
        have HF := Lib.hid hfin
        rw [t1]
        clear hin hfin t1
        go_wp2_with fail
        go_roundw
        case rel => exact ⟨i + 1, _, rfl, by go_num, by omega, HF.out⟩
        case measure => simp [intOf]; omega
      · have t1 : decide (s.data.toList ∈ M) = false := decide_eq_false hin
        rw [t1]
        have HIn := Lib.hid hin
        clear hin t1
        obtain ⟨wo, hwo⟩ : ∃ wo : World, wo = wr := ⟨_, rfl⟩
        subst hwo
        go_wp2_with fail
        go_loopw [6] (fun x wx => ∃ (k : Nat), x = .int .i64 k ∧ k ≤ M.length ∧ wo = wx ∧ ∀ (j : Nat) (hj : j < M.length), k ≤ j → s.data.toList < M[j]) (fun x _ => (intOf x).toNat)
        case atStart => exact ⟨M.length, rfl, Nat.le_refl _, rfl, fun j hj h => by omega⟩
        case round =>
          obtain ⟨k, rfl, hkn, rfl, hgt⟩ := hrel
          have HG := Lib.hid hgt
          clear hgt
          by_cases hk0 : k = 0
          · have hk1 : ¬ 0 < k := by omega
            by_cases hM0 : M = []
            · subst hM0
              subst hk0
              have hnil := HI.out.nil rfl
              injection hnil with hn1 hn2 hn3
              subst hn1 hn3
              have hfin : ∀ v9 w9, w9.ownsRow w.heap.size 9 1 v9 1 [.string s] → Below w.heap.size w w9 → RInv w (rise (bytesL (L.take (i + 1)))) v9 w9 := fun v9 w9 h1 h2 => by
                rw [HS.out, ins_new HIn.out]
                exact HI.out.put (k := 0) (by simp) rfl h1 h2
              have HFin := Lib.hid hfin
              have hlt0 : w.heap.size ≤ wo.heap.size := HI.out.below.size
              clear hfin HG hk1
              go_wp2_with fail
              go_region_law (first
                | (refine step_append_own _ (by rfl) (.tmp 33) (.tmp 39) 38 (by rfl) w.heap.size 9 i0 _ 1 16 Tryz.underlying38 hi hz0 hz1 hz2 rfl (by decide) (.slice none 0 0) 0 [] (by rfl) (World.ownsRow_nil _ _ _ _) ⟨wo.heap.size, 0, none⟩ 1 1 [.string s] (by rfl) (by rfl) (World.news_of_block (cs := #[.string s]) (t := 9) (fr := (0, 0)) (heap_alloc_new wo.drew _)) (fun u h => by { simp at h; subst h; rfl }) (by decide) (by decide) (by simp; omega) ?_; intro v40 w3 hown40 hgrow40 _; have H40 := Lib.hid (And.intro hown40 hgrow40); clear hown40 hgrow40)
                | (refine step_append_nil _ (by rfl) (.tmp 35) (.tmp 38) 38 (by rfl) w.heap.size 9 i0 1 Tryz.underlying38 hi (.slice (some ⟨wo.heap.size, 0, none⟩) 1 1) 1 [.string s] (by rfl) (World.ownsRow_lit wo.drew #[.string s] 1 hlt0 (by decide) rfl) (by rfl) ?_))
              all_goals
                have hfin := HFin.out v40 w3 H40.out.1 (put_below (o := .cells #[.string s] 9) (row := none) HI.out.below ⟨rfl, rfl, rfl, Nat.le_refl _, fun _ _ _ => rfl⟩ (fun x e => by cases e) H40.out.2 (fun x e => by cases e))
                have HF := Lib.hid hfin
                clear hfin H40 HFin
                go_wp2_with fail
                go_roundw
                case rel => exact ⟨i + 1, _, rfl, by go_num, by omega, HF.out⟩
                case measure => simp [intOf]; omega
            · have hM1 : 0 < M.length := List.length_pos_iff.2 hM0
              have HK0 := Lib.hid hk0
              clear hk0 hM0
              obtain ⟨g, cap, hv, hgb, hgl, hnc, hcm, hcl⟩ := NmR.own_form HI.out.own hM1
              injection hv with hv1 hv2 hv3
              subst hv1 hv3
              have HL := Lib.hid hcl
              clear hcl
              have hpl := place_found HSo.out s.data.toList k (by omega) (fun hl => absurd hl hk1) (fun hl => HG.out k hl (Nat.le_refl _))
              have hfin : ∀ v9 w9, w9.ownsRow w.heap.size 9 1 v9 (k + (1 + (M.length - k))) ((M.map encStr).take k ++ ([.string s] ++ (M.map encStr).drop k)) → Below w.heap.size w w9 → RInv w (rise (bytesL (L.take (i + 1)))) v9 w9 := fun v9 w9 h1 h2 => by
                rw [HS.out, ins_new HIn.out]
                exact HI.out.put (k := k) (by omega) hpl h1 h2
              have HFin := Lib.hid hfin
              have hsrc : ∀ (j : Nat) (u : Value), ((M.map encStr).drop k)[j]? = some u → wo.cell? ⟨g, k + j, none⟩ = some u := fun j u hj => by
                rw [List.getElem?_drop] at hj
                have hl9 := (List.getElem?_eq_some_iff.1 hj).1
                rw [List.length_map] at hl9
                rw [HL.out (k + j) (by omega), hj]
              have HSrc := Lib.hid hsrc
              have hlt0 : w.heap.size ≤ wo.heap.size := HI.out.below.size
              clear hpl hfin hsrc
              clear HG
              have hkc : k ≤ c1 := by omega
              by_cases hck : k = c1
              · subst hck
                have hz : M.length - k = 0 := by omega
                have hdr : (M.map encStr).drop k = [] := List.drop_eq_nil_of_le (by rw [List.length_map]; omega)
                have hfin2 : ∀ v9 w9, w9.ownsRow w.heap.size 9 1 v9 (k + 1) ((M.map encStr).take k ++ [.string s]) → Below w.heap.size w w9 → RInv w (rise (bytesL (L.take (i + 1)))) v9 w9 := fun v9 w9 h1 h2 => HFin.out v9 w9 (by rw [hdr, hz]; exact h1) h2
                clear HFin hz hdr
                have HFin := Lib.hid hfin2
                clear hfin2
                go_wp2_with fail
                go_region_law (first
                  | (refine step_append_own _ (by rfl) (.tmp 33) (.tmp 39) 38 (by rfl) w.heap.size 9 i0 _ 1 16 Tryz.underlying38 hi hz0 hz1 hz2 rfl (by decide) (.slice (some ⟨g, 0, none⟩) k k) k ((M.map encStr).take k) (by rfl) own33 ⟨g2, 0, none⟩ 1 cap2 [.string s] (by rfl) (by rfl) cells39 one39 (by unfold maxLen; omega) (by omega) (by omega) ?_; intro v40 w3 hown40 hgrow40 _; have H40 := Lib.hid (And.intro hown40 hgrow40); clear hown40 hgrow40)
                  | (refine step_append_own _ (by rfl) (.tmp 35) (.tmp 38) 38 (by rfl) w.heap.size 9 i0 _ 1 16 Tryz.underlying38 hi hz0 hz1 hz2 rfl (by decide) (.slice (some ⟨wo.heap.size, 0, none⟩) 1 1) 1 [.string s] (by rfl) (World.ownsRow_lit wo.drew #[.string s] 1 hlt0 (by decide) rfl) ⟨g, 0, none⟩ 0 0 [] (by rfl) (by rfl) (fun j u hj => by simp at hj) (fun u hu => by simp at hu) (by decide) (by decide) (by simp; omega) ?_; intro v39 w2 hown39a hgrow39 _; have hown39 : w2.ownsRow w.heap.size 9 1 v39 1 [.string s] := hown39a; clear hown39a; obtain ⟨g2, cap2, rfl, hg2, hg3⟩ := hown39.form (by decide); have own33 := own_still (k := k) (B := wo.heap.size) HI.out.own (by omega) rfl hgrow39; have cells39 : ∀ (j : Nat) (u : Value), [Value.string s][j]? = some u → w2.cell? ((⟨g2, 0, none⟩ : Addr).add j) = some u := fun j u hj => by { have hl := (List.getElem?_eq_some_iff.1 hj).1; rw [ExP.add_block, hown39.cellAt j (by simp at hl; omega), hj] }; have one39 : ∀ u ∈ [Value.string s], u.oneCell' = true := fun u h => by { simp at h; subst h; rfl }; have hs2 := hgrow39.size; have H39 := Lib.hid hgrow39; clear hgrow39))
                all_goals
                  have hfin := HFin.out v40 w3 H40.out.1 (put_below HI.out.below H39.out (fun x e => by { have e2 : some wo.heap.size = some x := e; injection e2 with e2; omega }) H40.out.2 (fun x e => by { have e2 : some g = some x := e; injection e2 with e2; omega }))
                  have HF := Lib.hid hfin
                  clear hfin H40 H39 own33 cells39 one39 hown39 HFin HSrc
                  go_wp2_with fail
                  go_roundw
                  case rel => exact ⟨i + 1, _, rfl, by go_num, by omega, HF.out⟩
                  case measure => simp [intOf]; omega
              · have hck2 : ¬ c1 = k := fun e => hck e.symm
                go_wp2_with fail
                go_region_law (first
                  | (refine step_append_own _ (by rfl) (.tmp 33) (.tmp 39) 38 (by rfl) w.heap.size 9 i0 _ 1 16 Tryz.underlying38 hi hz0 hz1 hz2 rfl (by decide) (.slice (some ⟨g, 0, none⟩) k c1) k ((M.map encStr).take k) (by rfl) own33 ⟨g2, 0, none⟩ (1 + (M.length - k)) cap2 ([.string s] ++ (M.map encStr).drop k) (by rfl) (by simp; omega) cells39 one39 (by unfold maxLen; omega) (by omega) (by omega) ?_; intro v40 w3 hown40 hgrow40 _; have H40 := Lib.hid (And.intro hown40 hgrow40); clear hown40 hgrow40)
                  | (refine step_append_own _ (by rfl) (.tmp 35) (.tmp 38) 38 (by rfl) w.heap.size 9 i0 _ 1 16 Tryz.underlying38 hi hz0 hz1 hz2 rfl (by decide) (.slice (some ⟨wo.heap.size, 0, none⟩) 1 1) 1 [.string s] (by rfl) (World.ownsRow_lit wo.drew #[.string s] 1 hlt0 (by decide) rfl) ⟨g, k, none⟩ (M.length - k) (c1 - k) ((M.map encStr).drop k) (by rfl) (by simp [List.length_drop]) (fun j u hj => by { rw [show (⟨g, k, none⟩ : Addr).add j = ⟨g, k + j, none⟩ from by { unfold Addr.add; split; rename_i h; subst h; rfl; rfl }]; exact (b_more (b_drew (Below.refl wo.heap.size wo)) _).cell (p := ⟨g, k + j, none⟩) hgl |>.trans (HSrc.out j u hj) }) (fun u hu => enc_one u (List.mem_of_mem_drop hu)) (by unfold maxLen; omega) (by omega) (by simp; omega) ?_; intro v39 w2 hown39 hgrow39 _; obtain ⟨g2, cap2, rfl, hg2, hg3⟩ := hown39.form (by omega); have own33 := own_still (k := k) (B := wo.heap.size) HI.out.own (by omega) rfl hgrow39; have cells39 : ∀ (j : Nat) (u : Value), ([.string s] ++ (M.map encStr).drop k)[j]? = some u → w2.cell? ((⟨g2, 0, none⟩ : Addr).add j) = some u := fun j u hj => by { have hl := (List.getElem?_eq_some_iff.1 hj).1; rw [ExP.add_block, hown39.cellAt j (by simp at hl; omega), hj] }; have one39 : ∀ u ∈ [.string s] ++ (M.map encStr).drop k, u.oneCell' = true := fun u hu => by { rcases List.mem_append.1 hu with h | h; simp at h; subst h; rfl; exact enc_one u (List.mem_of_mem_drop h) }; have hs2 := hgrow39.size; have H39 := Lib.hid hgrow39; clear hgrow39))
                all_goals
                  have hfin := HFin.out v40 w3 H40.out.1 (put_below HI.out.below H39.out (fun x e => by { have e2 : some wo.heap.size = some x := e; injection e2 with e2; omega }) H40.out.2 (fun x e => by { have e2 : some g = some x := e; injection e2 with e2; omega }))
                  have HF := Lib.hid hfin
                  clear hfin H40 H39 own33 cells39 one39 hown39 HFin HSrc
                  go_wp2_with fail
                  go_roundw
                  case rel => exact ⟨i + 1, _, rfl, by go_num, by omega, HF.out⟩
                  case measure => simp [intOf]; omega
          · have hpos : 0 < k := by omega
            obtain ⟨g, cap, hv, hgb, hgl, hnc, hcm, hcl⟩ := NmR.own_form HI.out.own (by omega)
            injection hv with hv1 hv2 hv3
            subst hv1 hv3
            obtain ⟨t, ht⟩ : ∃ t, M[k - 1] = t := ⟨_, rfl⟩
            have hcell : wo.cell? ⟨g, k - 1, none⟩ = some (.string (mkB t)) := by rw [hcl (k - 1) (by omega), enc_at M (k - 1) (by omega), ht]
            have hne : t ≠ s.data.toList := fun e => HIn.out (by rw [← e, ← ht]; exact List.getElem_mem _)
            have q2 : ((mkB t).toList == s.toList) = false := by rw [ByteArray.toList_eq, ByteArray.toList_eq]; exact beq_eq_false_iff_ne.2 hne
            have q0 : Op.bytesLess (mkB t).toList s.toList = decide (t < s.data.toList) := by rw [ByteArray.toList_eq, ByteArray.toList_eq]; exact less_lt t s.data.toList
            have hk1 : (k : Int) - 1 = ((k - 1 : Nat) : Int) := by omega
            have HM := Lib.hid ht
            have HL := Lib.hid hcl
            clear ht hcl hk1 hne
            by_cases hts : t < s.data.toList
            · rw [decide_eq_true hts] at q0
              have HTS := Lib.hid hts
              clear hts
              have hpl := place_found HSo.out s.data.toList k (by omega) (fun _ => by have := HTS.out; rw [← HM.out] at this; exact fun h => absurd (List.lt_trans h this) (List.lt_irrefl _)) (fun hl => HG.out k hl (Nat.le_refl _))
              have hfin : ∀ v9 w9, w9.ownsRow w.heap.size 9 1 v9 (k + (1 + (M.length - k))) ((M.map encStr).take k ++ ([.string s] ++ (M.map encStr).drop k)) → Below w.heap.size w w9 → RInv w (rise (bytesL (L.take (i + 1)))) v9 w9 := fun v9 w9 h1 h2 => by
                rw [HS.out, ins_new HIn.out]
                exact HI.out.put (k := k) (by omega) hpl h1 h2
              have HFin := Lib.hid hfin
              have hsrc : ∀ (j : Nat) (u : Value), ((M.map encStr).drop k)[j]? = some u → wo.cell? ⟨g, k + j, none⟩ = some u := fun j u hj => by
                rw [List.getElem?_drop] at hj
                have hl9 := (List.getElem?_eq_some_iff.1 hj).1
                rw [List.length_map] at hl9
                rw [HL.out (k + j) (by omega), hj]
              have HSrc := Lib.hid hsrc
              have hlt0 : w.heap.size ≤ wo.heap.size := HI.out.below.size
              clear hpl hfin hsrc
              clear HG HM HTS
              have hkc : k ≤ c1 := by omega
              by_cases hck : k = c1
              · subst hck
                have hz : M.length - k = 0 := by omega
                have hdr : (M.map encStr).drop k = [] := List.drop_eq_nil_of_le (by rw [List.length_map]; omega)
                have hfin2 : ∀ v9 w9, w9.ownsRow w.heap.size 9 1 v9 (k + 1) ((M.map encStr).take k ++ [.string s]) → Below w.heap.size w w9 → RInv w (rise (bytesL (L.take (i + 1)))) v9 w9 := fun v9 w9 h1 h2 => HFin.out v9 w9 (by rw [hdr, hz]; exact h1) h2
                clear HFin hz hdr
                have HFin := Lib.hid hfin2
                clear hfin2
                go_wp2_with fail
                go_region_law (first
                  | (refine step_append_own _ (by rfl) (.tmp 33) (.tmp 39) 38 (by rfl) w.heap.size 9 i0 _ 1 16 Tryz.underlying38 hi hz0 hz1 hz2 rfl (by decide) (.slice (some ⟨g, 0, none⟩) k k) k ((M.map encStr).take k) (by rfl) own33 ⟨g2, 0, none⟩ 1 cap2 [.string s] (by rfl) (by rfl) cells39 one39 (by unfold maxLen; omega) (by omega) (by omega) ?_; intro v40 w3 hown40 hgrow40 _; have H40 := Lib.hid (And.intro hown40 hgrow40); clear hown40 hgrow40)
                  | (refine step_append_own _ (by rfl) (.tmp 35) (.tmp 38) 38 (by rfl) w.heap.size 9 i0 _ 1 16 Tryz.underlying38 hi hz0 hz1 hz2 rfl (by decide) (.slice (some ⟨wo.heap.size, 0, none⟩) 1 1) 1 [.string s] (by rfl) (World.ownsRow_lit wo.drew #[.string s] 1 hlt0 (by decide) rfl) ⟨g, 0, none⟩ 0 0 [] (by rfl) (by rfl) (fun j u hj => by simp at hj) (fun u hu => by simp at hu) (by decide) (by decide) (by simp; omega) ?_; intro v39 w2 hown39a hgrow39 _; have hown39 : w2.ownsRow w.heap.size 9 1 v39 1 [.string s] := hown39a; clear hown39a; obtain ⟨g2, cap2, rfl, hg2, hg3⟩ := hown39.form (by decide); have own33 := own_still (k := k) (B := wo.heap.size) HI.out.own (by omega) rfl hgrow39; have cells39 : ∀ (j : Nat) (u : Value), [Value.string s][j]? = some u → w2.cell? ((⟨g2, 0, none⟩ : Addr).add j) = some u := fun j u hj => by { have hl := (List.getElem?_eq_some_iff.1 hj).1; rw [ExP.add_block, hown39.cellAt j (by simp at hl; omega), hj] }; have one39 : ∀ u ∈ [Value.string s], u.oneCell' = true := fun u h => by { simp at h; subst h; rfl }; have hs2 := hgrow39.size; have H39 := Lib.hid hgrow39; clear hgrow39))
                all_goals
                  have hfin := HFin.out v40 w3 H40.out.1 (put_below HI.out.below H39.out (fun x e => by { have e2 : some wo.heap.size = some x := e; injection e2 with e2; omega }) H40.out.2 (fun x e => by { have e2 : some g = some x := e; injection e2 with e2; omega }))
                  have HF := Lib.hid hfin
                  clear hfin H40 H39 own33 cells39 one39 hown39 HFin HSrc
                  go_wp2_with fail
                  go_roundw
                  case rel => exact ⟨i + 1, _, rfl, by go_num, by omega, HF.out⟩
                  case measure => simp [intOf]; omega
              · have hck2 : ¬ c1 = k := fun e => hck e.symm
                go_wp2_with fail
                go_region_law (first
                  | (refine step_append_own _ (by rfl) (.tmp 33) (.tmp 39) 38 (by rfl) w.heap.size 9 i0 _ 1 16 Tryz.underlying38 hi hz0 hz1 hz2 rfl (by decide) (.slice (some ⟨g, 0, none⟩) k c1) k ((M.map encStr).take k) (by rfl) own33 ⟨g2, 0, none⟩ (1 + (M.length - k)) cap2 ([.string s] ++ (M.map encStr).drop k) (by rfl) (by simp; omega) cells39 one39 (by unfold maxLen; omega) (by omega) (by omega) ?_; intro v40 w3 hown40 hgrow40 _; have H40 := Lib.hid (And.intro hown40 hgrow40); clear hown40 hgrow40)
                  | (refine step_append_own _ (by rfl) (.tmp 35) (.tmp 38) 38 (by rfl) w.heap.size 9 i0 _ 1 16 Tryz.underlying38 hi hz0 hz1 hz2 rfl (by decide) (.slice (some ⟨wo.heap.size, 0, none⟩) 1 1) 1 [.string s] (by rfl) (World.ownsRow_lit wo.drew #[.string s] 1 hlt0 (by decide) rfl) ⟨g, k, none⟩ (M.length - k) (c1 - k) ((M.map encStr).drop k) (by rfl) (by simp [List.length_drop]) (fun j u hj => by { rw [show (⟨g, k, none⟩ : Addr).add j = ⟨g, k + j, none⟩ from by { unfold Addr.add; split; rename_i h; subst h; rfl; rfl }]; exact (b_more (b_drew (Below.refl wo.heap.size wo)) _).cell (p := ⟨g, k + j, none⟩) hgl |>.trans (HSrc.out j u hj) }) (fun u hu => enc_one u (List.mem_of_mem_drop hu)) (by unfold maxLen; omega) (by omega) (by simp; omega) ?_; intro v39 w2 hown39 hgrow39 _; obtain ⟨g2, cap2, rfl, hg2, hg3⟩ := hown39.form (by omega); have own33 := own_still (k := k) (B := wo.heap.size) HI.out.own (by omega) rfl hgrow39; have cells39 : ∀ (j : Nat) (u : Value), ([.string s] ++ (M.map encStr).drop k)[j]? = some u → w2.cell? ((⟨g2, 0, none⟩ : Addr).add j) = some u := fun j u hj => by { have hl := (List.getElem?_eq_some_iff.1 hj).1; rw [ExP.add_block, hown39.cellAt j (by simp at hl; omega), hj] }; have one39 : ∀ u ∈ [.string s] ++ (M.map encStr).drop k, u.oneCell' = true := fun u hu => by { rcases List.mem_append.1 hu with h | h; simp at h; subst h; rfl; exact enc_one u (List.mem_of_mem_drop h) }; have hs2 := hgrow39.size; have H39 := Lib.hid hgrow39; clear hgrow39))
                all_goals
                  have hfin := HFin.out v40 w3 H40.out.1 (put_below HI.out.below H39.out (fun x e => by { have e2 : some wo.heap.size = some x := e; injection e2 with e2; omega }) H40.out.2 (fun x e => by { have e2 : some g = some x := e; injection e2 with e2; omega }))
                  have HF := Lib.hid hfin
                  clear hfin H40 H39 own33 cells39 one39 hown39 HFin HSrc
                  go_wp2_with fail
                  go_roundw
                  case rel => exact ⟨i + 1, _, rfl, by go_num, by omega, HF.out⟩
                  case measure => simp [intOf]; omega
            · rw [decide_eq_false hts] at q0
              have HTS := Lib.hid hts
              clear hts
              have hnew : ∀ (j : Nat) (hj : j < M.length), k - 1 ≤ j → s.data.toList < M[j] := fun j hj hkj => by
                rcases Nat.lt_or_ge j k with g | g
                · have : j = k - 1 := by omega
                  subst this
                  rw [HM.out]
                  have q3 : t ≠ s.data.toList := fun e => HIn.out (by rw [← e, ← HM.out]; exact List.getElem_mem _)
                  exact lt_or HTS.out q3
                · exact HG.out j hj g
              have HNew := Lib.hid hnew
              clear hnew
              go_wp2_with fail
              go_roundw
              case rel => exact ⟨k - 1, by go_num, by omega, by first | trivial | rfl, HNew.out⟩
              case measure => simp [intOf]; omega
    · have hkl : i = L.length := by omega
      subst hkl
      rw [List.take_length] at hI
      have HI := Lib.hid hI
      clear hI
      go_wp2_with fail
      go_ret
      exact ⟨_, rfl, HI.out.own, HI.out.below⟩
end Go.Proofs.YtdefaeieiaegaaaGreatDoor.NmI
namespace Go.Proofs.YtdefaeieiaegaaaGreatDoor.NmT
open Go.RowKit
open ExM NmM Kit ExL ExP ExV NmC NmP NmR NmA NmO NmI
set_option linter.unusedVariables false
theorem bytes_refs (L : List ByteArray) : mkL (bytesL L) = L := by
  unfold mkL bytesL; rw [List.map_map]
  exact (List.map_congr_left fun s _ => mkB_of s).trans (List.map_id'' (fun _ => rfl) L)
end Go.Proofs.YtdefaeieiaegaaaGreatDoor.NmT
