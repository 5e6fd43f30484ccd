/-
  What RangesWhole wants plainly; an array of 256 numbers is made; a slice of operations is cut.
-/
import Derived.Test.YtclgdgdponoomaaMSr
import Derived.Test.YtclgdgdponoomaaMMo
import Derived.Test.YtclgdgdponoomaaSWithin
import Derived.Laws.World
namespace Go.Proofs.Ytclgdgdponoomaa
open Go.RowKit

/-- How many places the first i groups have. -/
def cnt (h : Nat → Int) (n i : Nat) : Nat := (((grp h n 3).take i).map fun g => (idx h n g).length).sum
theorem cnt_zero (h : Nat → Int) (n : Nat) : cnt h n 0 = 0 := rfl
theorem cnt_succ (h : Nat → Int) (n i : Nat) (hi : i < (grp h n 3).length) : cnt h n (i + 1) = cnt h n i + (idx h n (grp h n 3)[i]).length := by
  unfold cnt
  rw [List.take_succ_eq_append_getElem hi, List.map_append, List.sum_append]
  simp
theorem idx_sum (h : Nat → Int) : ∀ n, (∀ k, k < n → 0 ≤ h k ∧ h k < 3) → (idx h n 0).length + (idx h n 1).length + (idx h n 2).length = n
  | 0, _ => rfl
  | n + 1, hh => by
    have ih := idx_sum h n (fun k hk => hh k (by omega))
    have h1 := hh n (by omega)
    have hc : h n = ((0 : Nat) : Int) ∨ h n = ((1 : Nat) : Int) ∨ h n = ((2 : Nat) : Int) := by omega
    rcases hc with e | e | e
    · rw [idx_yes h n 0 e, idx_no h n 1 (by rw [e]; omega), idx_no h n 2 (by rw [e]; omega), List.length_append, List.length_singleton]; omega
    · rw [idx_yes h n 1 e, idx_no h n 0 (by rw [e]; omega), idx_no h n 2 (by rw [e]; omega), List.length_append, List.length_singleton]; omega
    · rw [idx_yes h n 2 e, idx_no h n 0 (by rw [e]; omega), idx_no h n 1 (by rw [e]; omega), List.length_append, List.length_singleton]; omega
theorem grp_sum (h : Nat → Int) (n : Nat) : ∀ m, ((grp h n m).map fun g => (idx h n g).length).sum = ((List.range m).map fun g => (idx h n g).length).sum
  | 0 => rfl
  | m + 1 => by
    have ih := grp_sum h n m
    rw [List.range_succ, List.map_append, List.sum_append]
    by_cases e : 0 < (idx h n m).length
    · rw [grp_yes h n m e, List.map_append, List.sum_append, ih]
    · have e0 : (idx h n m).length = 0 := by omega
      rw [grp_no h n m e, ih]
      simp only [List.map_cons, List.map_nil, List.sum_cons, List.sum_nil, e0]
      omega
theorem cnt_all (h : Nat → Int) (n : Nat) (hh : ∀ k, k < n → 0 ≤ h k ∧ h k < 3) : cnt h n (grp h n 3).length = n := by
  unfold cnt
  rw [List.take_length, grp_sum]
  have := idx_sum h n hh
  simp [List.range, List.range.loop]
  omega
theorem rgtE_end : ∀ (ps : List Pa) (e l : Int), rgtE e l ps = true → e ≤ 256
  | [], e, l, h => by
    have : e = 256 := by simpa [rgtE] using h
    omega
  | p :: ps, e, l, h => by
    obtain ⟨k0, k1, _, _, k4⟩ := rgtE_cons.1 h
    have := rgtE_end ps p.hi p.g k4
    omega
/-- A variable stays while another block is written. -/
theorem Bx.side {w : World} {B : Nat} {ao : Option Addr} {cap : Nat} {ep : Int} {ps : List Pa} (h : Bx w B ao cap ep ps) {A : Nat} (hA : B ≠ A) (hv : ∀ b off, ao = some ⟨b, off, none⟩ → 0 < ps.length → b ≠ A) (i : Nat) (u : Value) : Bx (w.setCell ⟨A, i, none⟩ u) B ao cap ep ps := by
  have k : Kept (· ≠ A) w (w.setCell ⟨A, i, none⟩ u) := (Kept.refl _ _).setCell (by simp) _
  refine ⟨(k.block _ (lt_of_block h.self) hA).trans h.self, ⟨fun h0 => ?_⟩⟩
  obtain ⟨b, off, e, hb, hc⟩ := h.view.row h0
  have hq := hv b off e h0
  refine ⟨b, off, e, Nat.lt_of_lt_of_le hb k.size, fun i hi => ?_⟩
  obtain ⟨c0, c1, c2⟩ := hc i hi
  exact ⟨(kept_cell k hb hq).trans c0, (kept_cell k hb hq).trans c1, (kept_cell k hb hq).trans c2⟩
/-- The owner of the case of operation k, wherever it is asked. -/
theorem own_at {w5 W : World} {ao a : Option Addr} {c : Nat} {os : List Oz} {ps : List Pa} {ep : Int} (hO : Ov w5 ao os) (hs : ∀ o ∈ os, o.cas.length ≤ 140737488355328) (hB : Pv w5 a ps) (hr : rgt ep ps = true) (q : Kept (fun _ => True) w5 W) {g : Int} {k : Nat} (hk : k < os.length) (he : hof ps os k = g) :
    ∃ (b off : Nat) (s : List UInt8), ao = some ⟨b, off, none⟩ ∧ W.cell? ⟨b, off + k * 4 + 1, none⟩ = some (.string ⟨s.toArray⟩) ∧ b < W.heap.size ∧ ∀ W', Kept (fun _ => True) W W' → Calls Try.prog 11 #[.agg #[.int .i64 ep, .slice a ps.length c], .string ⟨s.toArray⟩] W' fun e w' => e = .returned (.tuple #[.int .i64 g, .bool true]) ∧ Kept (fun _ => True) W' w' := by
  obtain ⟨b, off, e, hb, hc⟩ := (hO.all q).row (by omega)
  have hl := rgt_most (rgt_iff.1 hr).2.2
  have h1 := (hc k hk).2.1
  have h2 := hs os[k] (List.getElem_mem hk)
  rw [hof_at hk] at he
  generalize os[k] = o at *
  refine ⟨b, off, o.cas, e, h1, hb, fun W' q' => ?_⟩
  have := Owner_any (cap := c) (ep := ep) (hB.all (q.trans q')) (by omega) o.cas (by omega) hr
  rw [he] at this
  exact this
def za : List Value := (List.range 256).map (fun _ => Value.int .i64 0)
theorem Try.zeroA : (Try.prog.info? 37).map (fun i => (i.zero, i.size)) = some (some (.agg za.toArray), 256) := by kernel_rfl
theorem w_alloc_a {ops : Array Oper} {rest : List Oper} {a : Act} {w : World} {Q : Exit → Act → World → Prop} {d : Option Nat} {ty : TypeId} {p : String} {af : Array Edge}
    (h : ∀ w', Af w' w.heap.size 37 256 (fun _ => .int .i64 0) → Kept (fun _ => True) w w' → wpList Try.prog ops Q rest (a.put d (.pointer (some ⟨w.heap.size, 0, none⟩))) w') :
    wpList Try.prog ops Q (⟨d, .alloc 37, ty, p, af, none⟩ :: rest) a w := by
  refine wpList_plain rfl fun K hK => ?_
  have hz := (zero_of_info Try.zeroA).1
  unfold Oper.wp execOp
  simp only [Instr.alloc, Sem.run_bind, Sem.run_pure, Result.andThen_ok, hz, newVar]
  simp [newRow, Value.cells, Oper.upon, Result.andThen]
  exact hK _ _ (h _ (heap_alloc_new w (.cells za.toArray 37)) ((Kept.refl _ _).alloc _))

end Go.Proofs.Ytclgdgdponoomaa
