/-
  The document's Drop; the law's 'same'.
-/
import Derived.Test.YtlgcecndfejngaaNR2
namespace Go.Proofs.Ytlgcecndfejngaa
open Go.RowKit

section
variable {w w' : World} {B : Nat} {F F' : Nat → Prop} {v v' : Value} {ms : List Ms} {n s : Int}

theorem St2.ahead {w w1 w' : World} {ms' : List Ms} {n' s' : Int} (h : St2 w w1 B F F' v' ms' n' s') (k : Kept (fun _ => True) w1 w') : St2 w w' B F F' v' ms' n' s' :=
  ⟨h.now.kept k (fun _ _ => trivial), h.kept.trans (k.mono (fun _ _ _ => trivial)), h.new⟩

set_option maxHeartbeats 400000 in
theorem rdrop_empty (h : Net2 w B F v [] n s) (k : Int) :
    Calls Try.prog 19 #[.pointer (some ⟨B, 0, none⟩), .int .i64 k] w fun r w' => r = .returned (.bool false) ∧ Kept (fun _ => True) w w' := by
  have c := rtake_empty h k
  clear h
  go_enter Try.func19, Try.ntmps19
  go_wp2_with fail
  refine Calls.mono c ?_
  rintro e w1 ⟨rfl, k1⟩
  go_wp2
  go_ret
  exact ⟨rfl, k1.alloc _⟩

set_option maxHeartbeats 400000 in
theorem rdrop_any (h : Net2 w B F v ms n s) (h0 : 0 < ms.length) (k : Int) (hk : I64 k) :
    Calls Try.prog 19 #[.pointer (some ⟨B, 0, none⟩), .int .i64 k] w fun r w' => r = .returned (.bool true) ∧ ∃ F' v', St2 w w' B F F' v' (ms.eraseIdx (spot k ms.length)) n s := by
  obtain ⟨p, hp⟩ : ∃ p, ms[spot k ms.length]? = some p := ⟨_, List.getElem?_eq_getElem (spot_lt k h0)⟩
  have c := rtake_any h k hk hp
  clear h hp
  go_enter Try.func19, Try.ntmps19
  go_wp2_with fail
  refine Calls.mono c ?_
  rintro e w1 ⟨rfl, F', v', st⟩
  go_wp2
  go_ret
  exact ⟨rfl, F', v', st.ahead ((Kept.refl _ _).alloc _)⟩
end

set_option maxHeartbeats 400000 in
/-- Two messages that are alike. -/
theorem same_any {w : World} {f t : Int} {ao : Option Addr} {cap : Nat} {bs : List UInt8} {b : Nat} (ho : w.ownsRow b 5 1 (.slice ao bs.length cap) bs.length (cells bs)) :
    Calls Try.prog 18 #[.agg #[.int .i64 f, .int .i64 t, .slice ao bs.length cap], .agg #[.int .i64 f, .int .i64 t, .string ⟨bs.toArray⟩]] w fun r w' => r = .returned (.bool true) ∧ Kept (fun _ => True) w w' := by
  have k2 : Kept (fun _ => True) w ((w.alloc (.cells #[.int .i64 f, .int .i64 t, .slice ao bs.length cap] 30)).alloc (.cells #[.int .i64 f, .int .i64 t, .string ⟨bs.toArray⟩] 46)) := ((Kept.refl _ _).alloc _).alloc _
  have cv := conv_own (own_kept ho k2 (fun _ _ => trivial))
  clear ho
  go_enter Try.func18, Try.ntmps18
  go_wp2
  go_ret
  exact ⟨rfl, k2⟩

end Go.Proofs.Ytlgcecndfejngaa
