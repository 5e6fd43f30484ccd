/-
  Slices of numbers in memory that are appended to; the books' Same of numbers.
-/
import Derived.Test.YtbooeabmpdpgpaaSB
namespace Go.Proofs.Ytbooeabmpdpgpaa
open Go.RowKit

theorem own_shape_row {w : World} {b e sz n : Nat} {v : Value} {xs : List Value} (h : w.ownsRow b e sz v n xs) : ∃ ao cap, v = .slice ao n cap := by
  rcases h.2 with ⟨e, h0⟩ | ⟨g, cap, _, e, _⟩
  · exact ⟨_, _, h0 ▸ e⟩
  · exact ⟨_, _, e⟩

/-- Numbers as cells. -/
def irow (ns : List Nat) : List Value := ns.map fun n => .int .i64 (n : Nat)
theorem irow_length (ns : List Nat) : (irow ns).length = ns.length := by simp [irow]
theorem irow_append (a b : List Nat) : irow (a ++ b) = irow a ++ irow b := by simp [irow]
theorem irow_get (ns : List Nat) (k : Nat) (h : k < ns.length) : (irow ns)[k]? = some (.int .i64 (ns[k] : Nat)) := by simp [irow, h]
theorem irow_one (ns : List Nat) : ∀ u ∈ irow ns, u.oneCell' = true := by
  intro u hu
  obtain ⟨_, _, rfl⟩ := List.mem_map.1 hu
  rfl
theorem Try.infoInt : (Try.prog.info? 3).map (fun i => (i.zero, i.size, i.bytes)) = some (some (.int .i64 0), 1, 8) := by kernel_rfl

/-- A slice of the numbers ns, in a row of its own behind 'base'. -/
def Its (w : World) (base : Nat) (v : Value) (ns : List Nat) : Prop := w.ownsRow base 3 1 v ns.length (irow ns)
theorem Its.nil (w : World) (base : Nat) : Its w base (.slice none 0 0) [] := World.ownsRow_nil _ _ _ _
theorem Its.kept {p : Nat → Prop} {w w' : World} {base : Nat} {v : Value} {ns : List Nat} (h : Its w base v ns) (hk : Kept p w w') (hp : ∀ k, v.ownBlock = some k → p k) : Its w' base v ns := by
  refine ⟨h.1, ?_⟩
  rcases h.2 with h0 | ⟨g, cap, cur, rfl, hb, hh, rest⟩
  · exact .inl h0
  · exact .inr ⟨g, cap, cur, rfl, hb, (hk.block g (lt_of_block hh) (hp g rfl)).trans hh, rest⟩
theorem Its.fresh {w : World} {base : Nat} {v : Value} {ns : List Nat} (h : Its w base v ns) (o : Obj) : Its (w.alloc o) base v ns := h.kept (p := fun _ => True) ((Kept.refl _ _).alloc o) (fun _ _ => trivial)
theorem Its.grown {w0 w w' : World} {o : Obj} {v : Value} {ns : List Nat} (h : Its w w0.heap.size v ns) (k : Kept (fun _ => True) w0 w) (g : (w.alloc o).grownBy w' v.ownBlock) : Kept (fun _ => True) w0 w' :=
  (k.alloc o).grown g (fun i hi e => by have := (World.ownsRow.lt h i e).1; omega)
theorem Its.at {w : World} {base n cap : Nat} {ao : Option Addr} {ns : List Nat} (h : Its w base (.slice ao n cap) ns) (k : Nat) (hk : k < ns.length) : ∃ g, ao = some ⟨g, 0, none⟩ ∧ w.cell? ⟨g, k, none⟩ = some (.int .i64 (ns[k] : Nat)) := by
  rcases h.2 with ⟨hv, h0⟩ | ⟨g, cap', cur, hv, _⟩
  · omega
  · injection hv with e1 e2 e3
    subst e1 e2 e3
    have h' : w.ownsRow base 3 1 (.slice (some ⟨g, 0, none⟩) ns.length cap) ns.length (irow ns) := h
    exact ⟨g, rfl, (h'.cellAt k (by omega)).trans (irow_get ns k hk)⟩
/-- A row of bytes and a row of numbers are two. -/
theorem append_int (w : World) (ty : TypeId) (base : Nat) (v : Value) (ns : List Nat) (h : Its w base v ns) (hb : base ≤ w.heap.size) (G : Nat) (n : Nat) (fr : Nat × Nat) (hG : w.heap[G]? = some (.cells #[.int .i64 (n : Nat)] 3 fr)) (hm : ns.length ≤ 1099511627776) :
    ∃ ao' cap' w', (Builtin.append_ #[22, 22] ty #[v, .slice (some ⟨G, 0, none⟩) 1 1]).run Try.prog w = .ok (.slice ao' (ns.length + 1) cap') w' ∧ Its w' base (.slice ao' (ns.length + 1) cap') (ns ++ [n]) ∧ w.grownBy w' v.ownBlock := by
  obtain ⟨i, hi, hz0, hz1, hz2⟩ := info_parts Try.infoInt
  obtain ⟨v', w', hr, h2, h3, _, h5⟩ := run_append_own_at (P := Try.prog) w base 22 ty 3 i (.int .i64 0) 1 8 Try.underlying22 hi hz0 hz1 hz2 rfl (by decide) v ns.length (irow ns) h ⟨G, 0, none⟩ 1 1 (irow [n]) (by simp [irow]) (World.news_of_block (w := w) hG) (irow_one [n]) (by unfold maxLen; omega) (by omega) hb
  obtain ⟨ao', cap', rfl⟩ := own_shape_row h2
  refine ⟨ao', cap', w', hr, ?_, h3⟩
  unfold Its
  rw [irow_append, List.length_append]
  exact h2
theorem wpList_append_int {w : World} {ops : Array Oper} {rest : List Oper} {o : Oper} {a : Act} {Q : Exit → Act → World → Prop} (hgd : o.guard = none) (sl y : Operand) (ho : o.op = .call { callee := .builtin .append, args := #[sl, y], argTypes := #[22, 22] })
    (base : Nat) (v : Value) (ns : List Nat) (hs : a.eval sl = v) (h : Its w base v ns) (hb : base ≤ w.heap.size) (G : Nat) (hy : a.eval y = .slice (some ⟨G, 0, none⟩) 1 1) (n : Nat) (fr : Nat × Nat) (hG : w.heap[G]? = some (.cells #[.int .i64 (n : Nat)] 3 fr)) (hm : ns.length ≤ 1099511627776)
    (hK : ∀ ao' cap' w', Its w' base (.slice ao' (ns.length + 1) cap') (ns ++ [n]) → w.grownBy w' v.ownBlock → wpList Try.prog ops Q rest (a.put o.dst (.slice ao' (ns.length + 1) cap')) w') : wpList Try.prog ops Q (o :: rest) a w := by
  refine wpList_plain hgd fun K hK' => ?_
  obtain ⟨ao', cap', w', hr, h2, h3⟩ := append_int w o.type base v ns h hb G n fr hG hm
  unfold Oper.wp execOp
  simp only [ho, resolve, invoke, builtin, Sem.run_bind, Sem.run_pure, Result.andThen_ok, List.map_toArray, List.map_cons, List.map_nil, hs, hy, hr]
  exact hK' _ _ (hK ao' cap' w' h2 h3)

theorem Its.shape {w : World} {base : Nat} {v : Value} {ns : List Nat} (h : Its w base v ns) : ∃ ao cap, v = .slice ao ns.length cap := own_shape_row h
theorem Its.one {w : World} {G k : Nat} (h : w.heap[G]? = some (.cells #[.int .i64 (k : Nat)] 3 (0, 0))) : Its w 0 (.slice (some ⟨G, 0, none⟩) 1 1) [k] :=
  ⟨rfl, .inr ⟨G, 1, _, rfl, Nat.zero_le _, h, Nat.le_refl _, by decide, rfl, rfl⟩⟩

set_option maxRecDepth 100000 in
set_option maxHeartbeats 1000000 in
theorem isame_raw {w : World} {b1 b2 : Nat} {a1 a2 : Option Addr} {n c1 c2 : Nat} {xs : List Nat} (h1 : Its w b1 (.slice a1 n c1) xs) (h2 : Its w b2 (.slice a2 n c2) xs) (hn : n = xs.length) (hl : n ≤ 1000000) :
    Calls Try.prog 13 #[.slice a1 n c1, .slice a2 n c2] w fun e w' => e = .returned (.bool true) ∧ ∃ m, w' = w.drewN m := by
  have H1 : Hid (Its w b1 (.slice a1 n c1) xs) := h1
  have H2 : Hid (Its w b2 (.slice a2 n c2) xs) := h2
  have HN : Hid (n = xs.length) := hn
  clear h1 h2 hn
  go_enter Try.func13, Try.ntmps13
  go_wp2
  go_loopw [5] (fun t wr => ∃ k m : Nat, k ≤ n ∧ t = .int .i64 k ∧ wr = w.drewN m) (fun t _ => n - (intOf t).toNat)
  case atStart => exact ⟨0, 0, Nat.zero_le _, rfl, rfl⟩
  case round =>
    obtain ⟨k, m, hk, rfl, rfl⟩ := hrel
    by_cases hlt : k < n
    · obtain ⟨G1, rfl, q1⟩ := H1.out.at k (by have := HN.out; omega)
      obtain ⟨G2, rfl, q2⟩ := H2.out.at k (by have := HN.out; omega)
      generalize xs[k]'(by have := HN.out; omega) = y at *
      have hkl : (k : Int) < (n : Int) := by omega
      have hk0 : (0 : Int) ≤ (k : Int) := by omega
      go_wp2
      go_quiet (fail)
      go_wp2
      go_roundw
      case rel => exact ⟨k + 1, _, by omega, by go_num, rfl⟩
      case measure => simp [intOf]; omega
    · have hkn : k = n := by omega
      subst hkn
      go_wp2
      go_ret
      exact ⟨rfl, _, rfl⟩
theorem isame_any {w : World} {b1 b2 : Nat} {v1 v2 : Value} {xs : List Nat} (h1 : Its w b1 v1 xs) (h2 : Its w b2 v2 xs) (hl : xs.length ≤ 1000000) :
    Calls Try.prog 13 #[v1, v2] w fun e w' => e = .returned (.bool true) ∧ ∃ m, w' = w.drewN m := by
  obtain ⟨a1, c1, rfl⟩ := h1.shape
  obtain ⟨a2, c2, rfl⟩ := h2.shape
  exact isame_raw h1 h2 rfl hl

end Go.Proofs.Ytbooeabmpdpgpaa
