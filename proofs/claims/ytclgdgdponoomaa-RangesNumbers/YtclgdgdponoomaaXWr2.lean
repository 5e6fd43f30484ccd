/-
  A Writer's Four, Text and Done.
-/
import Derived.Test.YtclgdgdponoomaaXWr1
import Derived.Lib.AppendStr
namespace Go.Proofs.Ytclgdgdponoomaa
open Go.RowKit

/-- n as a number of 64 bits without a sign. -/
def u64 (n : Int) : Int := IntKind.u64.wrap n
theorem u64_nonneg (n : Int) : 0 ≤ u64 n := by
  simp [u64, IntKind.wrap, IntKind.bits, IntKind.signed]; omega

set_option maxRecDepth 100000 in
set_option maxHeartbeats 400000 in
theorem wfour_any {w : World} {B : Nat} {G : Option Nat} {v : Value} {bs : List UInt8} (n : Int) (h : Wr w B G v bs) (hb : (bs.length : Int) + 4 ≤ 140737488355328) :
    Calls Try.prog 37 #[.pointer (some ⟨B, 0, none⟩), .int .i64 n] w fun e w' => e = .returned (.tuple #[]) ∧ ∃ G' v', Wr w' B G' v' (bs ++ enc (u64 n) 4) ∧
      Kept (fun x => x ≠ B ∧ G ≠ some x) w w' ∧ (∀ x, G' = some x → G = some x ∨ w.heap.size ≤ x) := by
  have c := wnumber_any (u64 n) 4 h (by decide) (u64_nonneg n) (by omega)
  unfold u64 at c
  go_enter Try.func37, Try.ntmps37
  go_wp2_with (go_at_call 48; refine Calls.mono c ?_; rintro e w1 ⟨rfl, G', v', h1, h2, h3⟩)
  go_end0
  exact ⟨rfl, G', v', h1, h2, h3⟩

/-- append of a text's bytes: the new slice lies where the old one did, or in a new block. -/
theorem append_str (w : World) (ty : TypeId) (v : Value) (n : Nat) (xs : List Value) (hown : w.ownsRow 0 5 1 v n xs) (s : ByteArray) (hb : n + s.size ≤ 140737488355328) :
    ∃ v' w', (Builtin.append_ #[34, 9] ty #[v, .string s]).run Try.prog w = .ok v' w' ∧ w'.ownsRow 0 5 1 v' (n + s.size) (xs ++ cells s.data.toList) ∧ w.grownBy w' v.ownBlock ∧
      (v.ownBlock = v'.ownBlock ∨ ∃ g, v'.ownBlock = some g ∧ w.heap.size ≤ g) := by
  obtain ⟨i, hi, hz0, hz1, hz2⟩ := info_parts Try.infoU8
  have hm : n + s.size ≤ maxLen := by unfold maxLen; omega
  have H := fun base h h' => Lib.run_append_own_string (P := Try.prog) w base 34 9 ty 5 i Try.underlying34 Try.underlying9 hi hz0 hz1 hz2 v n xs h s hm hb h'
  rcases hown.2 with ⟨rfl, rfl⟩ | ⟨g, cap, cur, rfl, hbg, hg, hnc, hcm, hcs, htake⟩
  · have hx : xs = [] := List.eq_nil_of_length_eq_zero (by simpa using hown.1)
    subst hx
    obtain ⟨v', w', hr, ho, hgr, hnil⟩ := H w.heap.size (World.ownsRow_nil _ _ _ _) (Nat.le_refl _)
    refine ⟨v', w', hr, ⟨ho.1, ?_⟩, hgr, ?_⟩
    · rcases ho.2 with h | ⟨g, cap, cur, h1, h2, h3⟩
      · exact .inl h
      · exact .inr ⟨g, cap, cur, h1, Nat.zero_le _, h3⟩
    · rcases ho.2 with ⟨h, _⟩ | ⟨g, cap, cur, h1, h2, h3⟩
      · exact .inl (by rw [h])
      · exact .inr ⟨g, by rw [h1]; rfl, h2⟩
  · obtain ⟨v', w', hr, ho, hgr, hnil⟩ := H 0 hown (Nat.zero_le _)
    refine ⟨v', w', hr, ho, hgr, ?_⟩
    have hxl : xs.length = n := by simpa using hown.1
    by_cases hroom : n + s.size ≤ cap
    · have hcs' : cur.size = cap := by simpa using hcs
      have hr' := Lib.run_append_room_string (P := Try.prog) w 34 9 ty 5 i Try.underlying34 Try.underlying9 hi hz1 g n cap cur hg s hroom (by omega)
      rw [hr] at hr'
      injection hr' with h1 h2
      exact .inl (by rw [h1]; rfl)
    · have holds : ∀ j u, xs[j]? = some u → w.cell? ((⟨g, 0, none⟩ : Addr).add j) = some u := hown.cells (g := g) rfl
      have hr' := Lib.run_append_grow_string (P := Try.prog) w 34 9 ty 5 i (.int .u8 0) Try.underlying34 Try.underlying9 hi hz0 ⟨g, 0, none⟩ n cap xs (by rw [hz1]; simpa using hxl) holds s (by omega) (by omega) (by rw [hz2]; exact growslice_fits (by omega) (by omega))
      rw [hr] at hr'
      injection hr' with h1 h2
      exact .inr ⟨w.heap.size, by rw [h1]; rfl, Nat.le_refl _⟩

/-- The same at the operation, for the walk. -/
theorem wpList_append_str {w : World} {ops : Array Oper} {rest : List Oper} {o : Oper} {a : Act} {Q : Exit → Act → World → Prop} (hgd : o.guard = none) (sl x : Operand)
    (ho : o.op = .call { callee := .builtin .append, args := #[sl, x], argTypes := #[34, 9] })
    (v : Value) (n : Nat) (xs : List Value) (hs : a.eval sl = v) (hown : w.ownsRow 0 5 1 v n xs) (s : ByteArray) (hx : a.eval x = .string s) (hb : n + s.size ≤ 140737488355328)
    (h : ∀ ao cap w', w'.ownsRow 0 5 1 (.slice ao (n + s.size) cap) (n + s.size) (xs ++ cells s.data.toList) → w.grownBy w' v.ownBlock → (v.ownBlock = (Value.slice ao (n + s.size) cap).ownBlock ∨ ∃ g, (Value.slice ao (n + s.size) cap).ownBlock = some g ∧ w.heap.size ≤ g) → wpList Try.prog ops Q rest (a.put o.dst (.slice ao (n + s.size) cap)) w') : wpList Try.prog ops Q (o :: rest) a w := by
  refine wpList_plain hgd fun K hK => ?_
  obtain ⟨v', w', hr, h2, h3, h4⟩ := append_str w o.type v n xs hown s hb
  obtain ⟨ao, cap, rfl⟩ := own_shape h2
  unfold Oper.wp execOp
  simp only [ho, resolve, invoke, builtin, Sem.run_bind, Sem.run_pure, Result.andThen_ok, List.map_toArray, List.map_cons, List.map_nil, hs, hx, hr]
  exact hK _ _ (h ao cap w' h2 h3 h4)

end Go.Proofs.Ytclgdgdponoomaa
