/- What is proved: the Go law lychwaykeep.TextTurned returns true for all its arguments,and leaves them as they were. No condition. -/
import Derived.Test.YtepikijjagoehaaGreatDoorTextTurnedL
namespace Go.Proofs.YtepikijjagoehaaGreatDoor.textTurned
open ValM LexM NumM ExM NmM Kit ExL ExP ExN RawV Within RawL RawN GenL FldP FldR FldC FrmM Frm FrmT FrmO PgM PgA PgF RkM RkA RkD RkO RkS RkK ShT ShL ShG TxM TxR TxP TxT TxQ TxN TxF TxU TxK TxI TxV
open Go.ChangeShapes Go.WideShapes Go.ChangeAt Go.RowKit
open Go.ChangeMaps (open_string shut_string)
theorem over:Rows.textTurnedRow.holds Tryz.pinned (OpenSpec.ofChange Rows.textTurnedSpec) :=
 OpenClaim.holds_of_wide 4 Tryz.f4 rfl rfl rfl rfl rfl rfl rfl ⟨rfl,rfl,rfl,rfl,rfl⟩ rfl rfl rfl rfl rfl (by kernel_rfl) Tryz.func4 (by kernel_rfl)
  (of_decide_eq_true (by kernel_rfl)) (by unfold Func.isWrapper; first | (rw [if_pos (by decide +kernel)]; kernel_rfl) | (rw [if_neg (by decide +kernel)]; exact ⟨rfl,rfl⟩))
  (fun os started H enc _ => lifted os started H enc)
theorem proved:Rows.TextTurnedCardSaid :=
 Claim7.holds_tied_plain_at .later [] [.data, .data, .data, .data, .sentinel, .sentinel, .data, .data, .data, .data, .pinned] true (true, "aca00e02352f83b5779a41627447b89a9fbb52629f7e450add6352ec313db91f") true
  over (fun _ h => by cases h) (by kernel_rfl) (fun _ h => by cases h) textTurned_row_tie rfl ⟨rfl,rfl⟩ (by kernel_rfl) rfl
  (fun f fn hf hfn => by
   obtain rfl : f = 4 := Option.some.inj ((show Tryz.prog.funcNamed "lychway/lychwaykeep.TextTurned" = some 4 by kernel_rfl).symm.trans hf) |>.symm
   obtain rfl:fn=Tryz.f4:=(Option.some.inj (Tryz.func4.symm.trans hfn)).symm
   exact ⟨by kernel_rfl,fun j t ht => by
    rw [Tryz.params4] at ht
    have hm:t ∈ [31,3]:=by simpa using Array.mem_of_getElem? ht
    have hall:([31,3].all fun u => !Tryz.prog.wantsStandIn u)=true:=by kernel_rfl
    exact (show Tryz.prog.wantsStandIn t=false by simpa using List.all_eq_true.1 hall t hm)⟩)
  (by kernel_rfl)
#print axioms proved
end Go.Proofs.YtepikijjagoehaaGreatDoor.textTurned
