/-
  The laws' texts, and the table of one client.
-/
import Derived.Test.YtihfcmcpapgokaaE9
import Derived.Laws.Runes
namespace Go.Proofs.Ytihfcmcpapgokaa
open Go.RowKit

theorem bytes_back (b : ByteArray) : (⟨b.data.toList.toArray⟩ : ByteArray) = b := by cases b; simp
theorem lists_of (F : Nat → ByteArray) : ∃ f : Nat → List UInt8, ∀ s, (⟨(f s).toArray⟩ : ByteArray) = F s := ⟨fun s => (F s).data.toList, fun s => bytes_back (F s)⟩
/-- string(rune('a' + s)) -/
noncomputable def tx : Nat → List UInt8 := (lists_of (fun s => Utf8.encode (97 + (s : Int)))).choose
theorem tx_back (s : Nat) : (⟨(tx s).toArray⟩ : ByteArray) = Utf8.encode (97 + (s : Int)) := (lists_of (fun s => Utf8.encode (97 + (s : Int)))).choose_spec s
theorem conv_tx (s : Nat) (W : World) : (convert 21 9 (.int .i32 (97 + (s : Int)))).run Try.prog W = .ok (.string ⟨(tx s).toArray⟩) W := by
  rw [tx_back]
  exact run_convert_int_string W _ _ _ _ rfl Try.underlying9

/-- The table behind k requests of the client. -/
noncomputable def upTo : Nat → List La
  | 0 => []
  | k + 1 => [⟨[99, 108, 105, 101, 110, 116], k, tx k⟩]
theorem upTo_length (k : Nat) : (upTo k).length ≤ 1 := by cases k <;> simp [upTo]
theorem upTo_fresh (k : Nat) : ask (upTo k) [99, 108, 105, 101, 110, 116] k = (1, []) := by
  cases k with
  | zero => rfl
  | succ k =>
    unfold ask upTo
    rw [List.find?_cons_of_pos (by simp [isC])]
    simp only
    rw [if_pos (by omega)]
theorem upTo_again (k : Nat) : ask (upTo (k + 1)) [99, 108, 105, 101, 110, 116] k = (2, tx k) := by
  unfold ask upTo
  rw [List.find?_cons_of_pos (by simp [isC])]
  simp
theorem upTo_past (k : Nat) : ask (upTo (k + 1)) [99, 108, 105, 101, 110, 116] ((k : Int) - 1) = (3, []) := by
  unfold ask upTo
  rw [List.find?_cons_of_pos (by simp [isC])]
  simp only
  rw [if_neg (by omega), if_neg (by omega)]
theorem upTo_done (k : Nat) : done 4 (upTo k) ⟨[99, 108, 105, 101, 110, 116], k, tx k⟩ = (0, upTo (k + 1)) := by
  have e : (upTo k).eraseP (isC [99, 108, 105, 101, 110, 116]) = [] := by
    cases k with
    | zero => rfl
    | succ k => unfold upTo; rw [List.eraseP_cons_of_pos (by simp [isC])]
  unfold done
  simp only
  rw [upTo_fresh, if_pos rfl]
  unfold moved
  simp only [e]
  rfl

end Go.Proofs.Ytihfcmcpapgokaa
