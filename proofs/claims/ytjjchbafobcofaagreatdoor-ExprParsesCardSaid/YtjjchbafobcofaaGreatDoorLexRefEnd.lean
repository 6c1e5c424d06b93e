/- The reference LexTokens, where its answer is known. -/
import Derived.Test.YtjjchbafobcofaaGreatDoorLexRef
namespace Go.Proofs.YtjjchbafobcofaaGreatDoor.LexRef
open Go.RowKit
open LexM LexB LexT Lex Kit
set_option linter.unusedVariables false


theorem refTokens_is (s : ByteArray) {ts : List Tk} {p : Nat} {e : Int} (h : lexR s.data.toList = (ts, p, e)) (w : World) (hs : s.size ≤ 140737488351232) (hv : Vars w) :
    Calls Tryz.prog 10 #[.string s] w fun x w' => ∃ v : Value, x = .returned (.tuple #[v, .int .i64 p, .int .i64 e]) ∧ w'.ownsRow w.heap.size 42 6 v ts.length (tksC ts) ∧ Below w.heap.size w w' :=
  (refTokens_any s w hs hv).mono fun x w' ⟨v, h1, h2, h3⟩ => ⟨v, by rw [h1, h], by rw [h] at h2; exact h2, h3⟩
theorem lex_len (l : List UInt8) : (lexR l).1.length ≤ 160 := by
  rcases lex_cases l with ⟨ts, h1, h2, h3⟩ | ⟨h1, h2⟩ | ⟨p, e, ts, h1, h2, h3, h4, _⟩
  · rw [h3]; exact Nat.le_trans (few l 0 ts h2) h1
  · rw [h2]; exact Nat.zero_le _
  · rw [h4]; exact Nat.zero_le _
end Go.Proofs.YtjjchbafobcofaaGreatDoor.LexRef
