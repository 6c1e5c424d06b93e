/- The reference's valued: the value of a right formula, whole. -/
import Derived.Test.YtehkebncdahmcaaDoorVdCon
import Derived.Test.YtehkebncdahmcaaDoorVdOp
namespace Go.Proofs.YtehkebncdahmcaaDoor.VdA
open Go.RowKit
open NumM ValM StrM ExM NmM TyM EvM Kit ExL ExV Ev EvC EvO EvF Vd VdT VdC VdO
set_option linter.unusedVariables false

theorem vd_all (l : List Fc) (FA : Option Addr) (fc : Nat) (hl : l.length ≤ 1000000000000) (hok : ∀ f ∈ fcs l, f.2.ok) : ∀ x : Ex, x.okN → VdAt l FA fc x := by
  refine Ex.ind fun d xs ih => ?_
  intro h d' A n c w his hf
  obtain ⟨o1, o2, o3⟩ := okN_op h
  have hx := ((okN_mk d xs).1 h).2
  rw [is_mk] at his
  obtain ⟨rfl, rfl, _, his⟩ := his
  obtain ⟨a17, a15, _⟩ := arity_cases d'.op
  have hA : ∀ x ∈ xs, VdAt l FA fc x := fun x hm => ih x hm (hx x hm)
  have hoks : ∀ v ∈ evL (fcs l) xs, v.ok := fun v hv => by
    rw [evL_map] at hv
    obtain ⟨x, hm, rfl⟩ := List.mem_map.1 hv
    exact ev_ok hok x (hx x hm)
  rw [ev_mk]
  by_cases g1 : d'.op = 1
  · have := vd_const d'.op d'.k d'.n d'.s d'.nm A xs.length c (.slice FA l.length fc) w g1
    unfold evN; rw [if_pos g1]; exact this
  by_cases g2 : d'.op = 2
  · have := vd_ref d'.op d'.k d'.n d'.s d'.nm A xs.length c l FA fc w g2 hl hf
    unfold evN; rw [if_neg g1, if_pos g2]; exact this
  by_cases g17 : d'.op = 17
  · have h3 := o3.trans (a17 g17)
    unfold evN; rw [if_neg g1, if_neg g2, if_pos g17]
    match xs, h3, his, hA, hoks with
    | [xa, xb, xc], _, his, hA, hoks =>
      have := vd_if d'.k d'.n d'.s d'.nm xa xb xc A c l FA fc w (hoks _ (by rw [evL_cons]; simp)) (hA xa (by simp)) (hA xb (by simp)) (hA xc (by simp)) his hf
      rw [g17, evL_cons, evL_cons, evL_cons, evL_nil]; exact this
  by_cases g15 : d'.op = 15
  · have h3 := o3.trans (a15 (.inl g15))
    unfold evN; rw [if_neg g1, if_neg g2, if_neg g17, if_pos g15]
    match xs, h3, his, hA, hoks with
    | [xa, xb], _, his, hA, hoks =>
      have := vd_con_15 d'.k d'.n d'.s d'.nm xa xb A c l FA fc w (hoks _ (by rw [evL_cons]; simp)) (hA xa (by simp)) (hA xb (by simp)) his hf
      rw [g15, evL_cons, evL_cons, evL_nil]; exact this
  by_cases g16 : d'.op = 16
  · have h3 := o3.trans (a15 (.inr g16))
    unfold evN; rw [if_neg g1, if_neg g2, if_neg g17, if_neg g15, if_pos g16]
    match xs, h3, his, hA, hoks with
    | [xa, xb], _, his, hA, hoks =>
      have := vd_con_16 d'.k d'.n d'.s d'.nm xa xb A c l FA fc w (hoks _ (by rw [evL_cons]; simp)) (hA xa (by simp)) (hA xb (by simp)) his hf
      rw [g16, evL_cons, evL_cons, evL_nil]; exact this
  · unfold evN; rw [if_neg g1, if_neg g2, if_neg g17, if_neg g15, if_neg g16]
    exact vd_op d'.op d'.k d'.n d'.s d'.nm xs A c l FA fc w (by omega) o2 ⟨g15, g16, g17⟩ o3 hoks hA his hf
end Go.Proofs.YtehkebncdahmcaaDoor.VdA
