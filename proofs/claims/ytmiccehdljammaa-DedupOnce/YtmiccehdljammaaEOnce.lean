/-
  The laws' texts, and the table of one client.
-/
import Derived.Test.YtmiccehdljammaaE9
import Derived.Laws.Runes
namespace Go.Proofs.Ytmiccehdljammaa
open Go.RowKit

theorem bytes_back (b : ByteArray) : (⟨b.data.toList.toArray⟩ : ByteArray) = b := by cases b; simp
theorem lists_of (F : Nat → ByteArray) : ∃ f : Nat → List UInt8, ∀ s, (⟨(f s).toArray⟩ : ByteArray) = F s := ⟨fun s => (F s).data.toList, fun s => bytes_back (F s)⟩
/-- string(rune('a' + s)) -/
def IsTx (tx : Nat → List UInt8) : Prop := ∀ s, (⟨(tx s).toArray⟩ : ByteArray) = Utf8.encode (97 + (s : Int))
theorem tx_some : ∃ tx, IsTx tx := lists_of (fun s => Utf8.encode (97 + (s : Int)))
variable {tx : Nat → List UInt8}
theorem conv_tx (h : IsTx tx) (s : Nat) (W : World) : (convert 21 9 (.int .i32 (97 + (s : Int)))).run Try.prog W = .ok (.string ⟨(tx s).toArray⟩) W := by
  rw [h s]
  exact run_convert_int_string W _ _ _ _ rfl Try.underlying9

/-- The table behind k requests of the client. -/
def upTo (tx : Nat → List UInt8) : Nat → List La
  | 0 => []
  | k + 1 => [⟨[99, 108, 105, 101, 110, 116], k, tx k⟩]
theorem upTo_length (k : Nat) : (upTo tx k).length ≤ 1 := by cases k <;> simp [upTo]
theorem upTo_fresh (k : Nat) : ask (upTo tx k) [99, 108, 105, 101, 110, 116] k = (1, []) := by
  cases k with
  | zero => rfl
  | succ k =>
    unfold ask upTo
    rw [List.find?_cons_of_pos (by simp [isC])]
    simp only
    rw [if_pos (by omega)]
theorem upTo_again (k : Nat) : ask (upTo tx (k + 1)) [99, 108, 105, 101, 110, 116] k = (2, tx k) := by
  unfold ask upTo
  rw [List.find?_cons_of_pos (by simp [isC])]
  simp
theorem upTo_past (k : Nat) : ask (upTo tx (k + 1)) [99, 108, 105, 101, 110, 116] ((k : Int) - 1) = (3, []) := by
  unfold ask upTo
  rw [List.find?_cons_of_pos (by simp [isC])]
  simp only
  rw [if_neg (by omega), if_neg (by omega)]
theorem upTo_done (k : Nat) : done 4 (upTo tx k) ⟨[99, 108, 105, 101, 110, 116], k, tx k⟩ = (0, upTo tx (k + 1)) := by
  have e : (upTo tx k).eraseP (isC [99, 108, 105, 101, 110, 116]) = [] := by
    cases k with
    | zero => rfl
    | succ k => unfold upTo; rw [List.eraseP_cons_of_pos (by simp [isC])]
  unfold done
  simp only
  rw [upTo_fresh, if_pos rfl]
  unfold moved
  simp only [e]
  rfl

end Go.Proofs.Ytmiccehdljammaa
