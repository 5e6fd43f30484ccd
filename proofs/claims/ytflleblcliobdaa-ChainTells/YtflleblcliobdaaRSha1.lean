/-
  The document's own turn and constants (conclaveref2), and what its Sha is made of.
-/
import Derived.Test.YtflleblcliobdaaSSha
import Derived.BigRegion
namespace Go.Proofs.Ytflleblcliobdaa
open Go.RowKit

theorem rturn_eq (x n : Nat) (hx : x < 4294967296) : bits BinOp.or .u32 ((x : Int) / 2 ^ n) ((x : Int) * 2 ^ (32 - n) % 4294967296) = ((rotr x n : Nat) : Int) := by
  have e1 : (x : Int) / 2 ^ n = ((x / 2 ^ n : Nat) : Int) := by simp
  have e2 : (x : Int) * 2 ^ (32 - n) % 4294967296 = ((x * 2 ^ (32 - n) % 4294967296 : Nat) : Int) := by simp
  rw [e1, e2, u32_or_nat _ _ (div_lt32 _ hx) (Nat.mod_lt _ (by decide))]
  rfl

set_option maxHeartbeats 1000000 in
theorem rturn_any {w : World} (x n : Nat) (hx : x < 4294967296) (h0 : 0 < n) (h1 : n < 32) :
    Calls Try.prog 56 #[.int .u32 x, .int .u64 n] w fun e w' => e = .returned (.int .u32 (rotr x n : Nat)) ∧ w' = w := by
  have hr := rturn_eq x n hx
  go_enter Try.func56, Try.ntmps56
  go_wp2
  go_ret
  exact ⟨rfl, rfl⟩

set_option maxRecDepth 100000 in
set_option maxHeartbeats 400000 in
theorem rconst_any {w : World} : Calls Try.prog 55 #[] w fun e w' => e = .returned (.agg (wcells kOf).toArray) ∧ Kept (fun _ => True) w w' := by
  obtain ⟨ks, HK, lk, lk', ok, bk⟩ := ks_any
  have e : kOf = ks := HK.out.symm
  rw [e]
  clear e bk
  go_enter Try.func55, Try.ntmps55
  go_wp2_with (first
    | ((with_reducible refine w_alloc (d := some 0) arr64 ?_); intro w3 a5 k3 s3)
    | (with_reducible refine w_build ks lk (by rw [HK.out]; kernel_rfl) ?_)
    | ((with_reducible apply w_store (x := .tmp 0) (b := w.heap.size) (xs := wcells ks) (old := List.replicate 64 (.int .u32 0)) arr64); (case hx => rfl); (case hy => rfl); (case ha => exact a5); (case ho => simp); (case hl => exact lk'); (case h1 => exact ok); intro w4 a6 k4 s4))
  refine bodyPost_ret (results_ar (p := 0) arr64 rfl _ _ rfl a6 lk') rfl ⟨rfl, k3.then k4 (fun i hi _ => by omega)⟩

end Go.Proofs.Ytflleblcliobdaa

namespace Go.Proofs.Ytflleblcliobdaa
open Go.RowKit

/-- A row of one's own that lies where nothing was, grown. -/
theorem own_grown {b : Nat} {a w w' : World} {v : Value} {n : Nat} {xs : List Value} (h : w.ownsRow b 5 1 v n xs) (hk : Kept (fun _ => True) a w) (hb : a.heap.size ≤ b) (hg : w.grownBy w' v.ownBlock) : Kept (fun _ => True) a w' :=
  hk.grown hg (fun k hk e _ => by have := (h.lt k e).1; omega)
/-- A callee that draws nothing, in a region behind another one that draws. -/
theorem quiet_two {P : Program} {f : FuncId} {args : Array Value} {w : World} {k n : Nat} {v : Value} (h : Calls P f args (w.drewN (k + n)) fun e w' => e = .returned v ∧ w' = w.drewN (k + n)) : Calls P f args (w.drewN (k + n)) fun e w'' => e = .returned v ∧ ∃ m, w'' = w.drewN (k + m) :=
  h.mono fun _ _ ⟨he, hm⟩ => ⟨he, n, hm⟩
theorem out4_get (ws : List Nat) (a r : Nat) (ha : a < ws.length) (hr : r < 4) : (out4 ws)[4 * a + r]? = some (UInt8.ofNat (ws.getD a 0 / 256 ^ (3 - r))) := by
  induction ws generalizing a with
  | nil => simp at ha
  | cons x ws ih =>
    have e : out4 (x :: ws) = bytesOf x 4 ++ out4 ws := by simp [out4]
    rw [e]
    cases a with
    | zero =>
      rw [List.getElem?_append_left (by rw [bytesOf_length]; omega)]
      match r, hr with
      | 0, _ => rfl
      | 1, _ => rfl
      | 2, _ => rfl
      | 3, _ => rfl
    | succ a =>
      rw [List.getElem?_append_right (by rw [bytesOf_length]; omega), bytesOf_length, show 4 * (a + 1) + r - 4 = 4 * a + r by omega, ih a (by simpa using ha)]
      rfl
def sliceLen : Value → Nat
  | .slice _ n _ => n
  | _ => 0
theorem bytesOf_take (x j : Nat) (h : j < 8) : (bytesOf x 8).take (j + 1) = (bytesOf x 8).take j ++ [UInt8.ofNat (x / 256 ^ (7 - j))] := by
  match j, h with
  | 0, _ => rfl
  | 1, _ => rfl
  | 2, _ => rfl
  | 3, _ => rfl
  | 4, _ => rfl
  | 5, _ => rfl
  | 6, _ => rfl
  | 7, _ => rfl

/-- The body of the loop in the block of that number. -/
def loopIn (n : Nat) : Code → Option Code
  | .block m c => if m = n then (match c with | .loop b => some b | _ => none) else loopIn n c
  | .seq a b => match loopIn n a with
    | some c => some c
    | none => loopIn n b
  | .loop c => loopIn n c
  | .cond _ a b => match loopIn n a with
    | some c => some c
    | none => loopIn n b
  | _ => none

/-- A loop's walk whose rest is known at its block's end alone. -/
theorem wp_tail {n : Nat} {K : Act → World → Prop} {R : Ending → World → Prop} {Q : Exit → Act → World → Prop} {c : Code} {a : Act} {w : World} (h : Code.wp Try.prog c (Exit.inBlock n (Exit.then K (bodyPost Try.prog Try.f40 R))) a w)
    (hr : ∀ a w, bodyPost Try.prog Try.f40 R .ret a w → Q .ret a w) (hp : ∀ ch a w, bodyPost Try.prog Try.f40 R (.panic ch) a w → Q (.panic ch) a w) (ho : ∀ a w, bodyPost Try.prog Try.f40 R .outgrown a w → Q .outgrown a w) :
    Code.wp Try.prog c (Exit.inBlock n (Exit.then K Q)) a w := by
  refine Code.wp_mono ?_ h
  intro e a w hq
  cases e with
  | normal => exact hq
  | exit m =>
    by_cases hm : m = n
    · subst hm
      simpa [Exit.inBlock, Exit.then] using hq
    · simp [Exit.inBlock, Exit.then, hm, bodyPost] at hq
  | goto l => exact hq.elim
  | ret => exact hr a w hq
  | panic ch => exact hp ch a w hq
  | outgrown => exact ho a w hq

end Go.Proofs.Ytflleblcliobdaa
