/- What is proved: the Go law lychwaykeep.WholeTurned returns true for all its arguments,and leaves them as they were. No condition. -/
import Derived.Test.YtonlkmkfcaadlaaGreatDoorWholeTurnedL
namespace Go.Proofs.YtonlkmkfcaadlaaGreatDoor.wholeTurned
open ValM LexM NumM ExM NmM StrM EvM EvP FoM Kit ExL ExP ExN RawV Within RawL RawN GenL TyM Ty EvF EvO EvR EvE FrmM Frm FrmT FrmO FldP FldC FcM PgM PgF ShE RkM RkD RkO RkT RkP RkS RkK TxR TxT TxK InpG FcF WhM WhQ WhU WhT WhA Wh1 Wh2 Wh3 Wh4 Wh5 Wh6 Wh7 Wh8 Wh9 Wh10 Wh11 Wh13 Wh14 SMp KMp FldU VlS Wh15 Wh16
open Go.ChangeShapes Go.WideShapes Go.ChangeAt Go.RowKit
open Go.ChangeMaps (open_string shut_string)
theorem over:Rows.wholeTurnedRow.holds Tryz.pinned (OpenSpec.ofChange Rows.wholeTurnedSpec) :=
 OpenClaim.holds_of_wide 5 Tryz.f5 rfl rfl rfl rfl rfl rfl rfl ⟨rfl,rfl,rfl,rfl,rfl⟩ rfl rfl rfl rfl rfl (by kernel_rfl) Tryz.func5 (by kernel_rfl)
  (of_decide_eq_true (by kernel_rfl)) (by unfold Func.isWrapper; first | (rw [if_pos (by decide +kernel)]; kernel_rfl) | (rw [if_neg (by decide +kernel)]; exact ⟨rfl,rfl⟩))
  (fun os started H enc _ => lifted os started H enc)
theorem proved:Rows.WholeTurnedCardSaid :=
 Claim7.holds_tied_plain_at .later [] [.data] true (true, "5b614f18355bc39049820e1e7d69463dd0b52438914661f6016dc5c10f953c8b") false
  over (fun _ h => by cases h) (by kernel_rfl) (fun _ h => by cases h) wholeTurned_row_tie rfl ⟨rfl,rfl⟩ (by kernel_rfl) rfl
  (fun f fn hf hfn => by
   obtain rfl : f = 5 := Option.some.inj ((show Tryz.prog.funcNamed "lychway/lychwaykeep.WholeTurned" = some 5 by kernel_rfl).symm.trans hf) |>.symm
   obtain rfl:fn=Tryz.f5:=(Option.some.inj (Tryz.func5.symm.trans hfn)).symm
   exact ⟨by kernel_rfl,fun j t ht => by
    rw [Tryz.params5] at ht
    have hm:t ∈ [22,22,3]:=by simpa using Array.mem_of_getElem? ht
    have hall:([22,22,3].all fun u => !Tryz.prog.wantsStandIn u)=true:=by kernel_rfl
    exact (show Tryz.prog.wantsStandIn t=false by simpa using List.all_eq_true.1 hall t hm)⟩)
  (by kernel_rfl)
#print axioms proved
end Go.Proofs.YtonlkmkfcaadlaaGreatDoor.wholeTurned
