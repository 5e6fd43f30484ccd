/-
  The program's table: one client is taken out of the row (the library's slices.Delete), and forget.
-/
import Derived.Test.YtmiccehdljammaaE1
namespace Go.Proofs.Ytmiccehdljammaa
open Go.RowKit

theorem Try.elemLast : Try.prog.elem 32 = 37 := by kernel_rfl
theorem size_last (w0 : World) : (sizeOf (Try.prog.elem 32)).run Try.prog w0 = .ok 3 w0 := by
  obtain ⟨i, hi, hz0, hz1, hz2⟩ := info_parts Try.infoLast
  rw [Try.elemLast]
  simp [sizeOf, typeInfo, hi, hz1]

/-- An append within the row's own room, at a step of a region that draws its order. -/
theorem step_within {w : World} {ops : Array Oper} {o : Oper} {a : Act} {K : Act → World → Prop} {Q : Exit → Act → World → Prop} {E : Prop} (hgd : o.guard = none) (sl x : Operand)
    (ho : o.op = .call { callee := .builtin .append, args := #[sl, x], argTypes := #[32, 32] })
    (g i cap : Nat) (cur : Array Value) (hg : w.heap[g]? = some (.cells cur 37 (0, 0))) (hs : a.eval sl = .slice (some ⟨g, 0, none⟩) i cap)
    (ad : Addr) (m c : Nat) (news : List Value) (hx : a.eval x = .slice (some ad) m c) (hl : news.length = m * 3) (hnews : ∀ j u, news[j]? = some u → w.cell? (ad.add j) = some u) (h1 : ∀ u ∈ news, u.oneCell' = true)
    (hroom : i + m ≤ cap) (hfit : i * 3 + news.length ≤ cur.size) (n1 : Nat) (hn1 : i + m = n1) (W' : World) (hW : w.setRow g (cur.toList.take (i * 3) ++ news ++ cur.toList.drop (i * 3 + news.length)).toArray = W')
    (h : K (a.put o.dst (.slice (some ⟨g, 0, none⟩) n1 cap)) W') : if Region.wanted o (yielded ops a.tmps) = true then Oper.wp Try.prog o a w K Q else E := by
  have hw : Region.wanted o (yielded ops a.tmps) = true := by simp [Region.wanted, hgd]
  rw [if_pos hw]
  obtain ⟨io, hi, hz0, hz1, hz2⟩ := info_parts Try.infoLast
  have hr := run_append_room (P := Try.prog) w 32 o.type 37 io Try.underlying32 hi g i cap cur hg ad m c news (by rw [hz1]; exact hl) hnews h1 hroom (by rw [hz1]; exact hfit)
  rw [hz1, hW, hn1] at hr
  unfold Oper.wp execOp
  simp only [ho, resolve, invoke, builtin, Sem.run_bind, Sem.run_pure, Result.andThen_ok, List.map_toArray, List.map_cons, List.map_nil, hs, hx, hr]
  exact h

def zero3 : List Value := [.string .empty, .int .i64 0, .string .empty]
/-- clear over one client. -/
theorem run_clear_one (W : World) (ty : TypeId) (g o c : Nat) (cur : Array Value) (hg : W.heap[g]? = some (.cells cur 37 (0, 0))) (hfit : o + 3 ≤ cur.size) :
    (Builtin.clear_ #[32] ty #[.slice (some ⟨g, o, none⟩) 1 c]).run Try.prog W = .ok (.tuple #[]) (W.setRow g (cur.toList.take o ++ zero3 ++ cur.toList.drop (o + 3)).toArray) := by
  have hst := run_storeCells_at Try.prog g o 37 zero3 0 cur W hg (by simpa [zero3] using hfit) (by simp [zero3, Value.oneCell'])
  rw [show zero3.length = 3 from rfl] at hst
  simp only [Nat.add_zero] at hst
  have hz : (Builtin.zeroCells (Value.agg #[.string ⟨#[]⟩, .int .i64 0, .string ⟨#[]⟩]).cells 1).toList = zero3 := by simp [Builtin.zeroCells, Value.cells, zero3]; rfl
  simp [Builtin.clear_, run_underlying Try.underlying32, Try.zeroValue37, hz, hst]

set_option maxRecDepth 100000 in
set_option maxHeartbeats 1000000 in
theorem delete_any {w : World} {g cap : Nat} {xs : List La} (ho : w.ownsRow 0 37 3 (.slice (some ⟨g, 0, none⟩) xs.length cap) xs.length (row true xs)) (hm : xs.length ≤ 100) (i : Nat) (hi : i < xs.length) :
    Calls Try.prog 12 #[.slice (some ⟨g, 0, none⟩) xs.length cap, .int .i64 i, .int .i64 ((i : Int) + 1)] w fun r w' => r = .returned (.slice (some ⟨g, 0, none⟩) (xs.length - 1) cap) ∧ w'.ownsRow 0 37 3 (.slice (some ⟨g, 0, none⟩) (xs.length - 1) cap) (xs.length - 1) (row true (xs.eraseIdx i)) ∧ Kept (· ≠ g) w w' := by
  obtain ⟨cur, hg, hcap, hcm, hcs, htake⟩ : ∃ cur, w.heap[g]? = some (.cells cur 37 (0, 0)) ∧ xs.length ≤ cap ∧ cap ≤ maxLen ∧ cur.size = cap * 3 ∧ cur.toList.take (xs.length * 3) = row true xs := by
    rcases ho.2 with ⟨h', _⟩ | ⟨g', cap', cur, h', hb, hg, hc, hm, hs, ht⟩
    · simp at h'
    · simp only [Value.slice.injEq, Option.some.injEq, Addr.mk.injEq, and_true, true_and] at h'
      obtain ⟨rfl, rfl⟩ := h'
      exact ⟨cur, hg, hc, hm, hs, ht⟩
  obtain ⟨n, hn⟩ : ∃ n, n = xs.length := ⟨_, rfl⟩
  obtain ⟨j, hj⟩ : ∃ j, j = i + 1 := ⟨_, rfl⟩
  obtain ⟨n1, hn1⟩ : ∃ n1, n1 = n - 1 := ⟨_, rfl⟩
  rw [show ((i : Int) + 1) = (j : Int) by omega, ← hn, ← hn1]
  obtain ⟨news, hnews⟩ : ∃ news, news = row true (xs.drop j) := ⟨_, rfl⟩
  have hlen : news.length = (n - j) * 3 := by rw [hnews, row_length, List.length_drop, hn]
  have hrow : cur.toList.take (n * 3) = row true xs := by rw [hn]; exact htake
  have hcell : ∀ t u, news[t]? = some u → w.cell? ⟨g, j * 3 + t, none⟩ = some u := by
    intro t u hu
    rw [cell_of_row w g _ cur _ _ hg]
    rw [hnews, ← row_drop true, ← hrow, List.getElem?_drop, List.getElem?_take] at hu
    split at hu
    · simpa using hu
    · cases hu
  obtain ⟨A, hA, hsrc⟩ : ∃ A : Addr, (if cap = j then some (⟨g, 0, none⟩ : Addr) else some ⟨g, j * 3, none⟩) = some A ∧ Hid (∀ t u, news[t]? = some u → w.drew.cell? (A.add t) = some u) := by
    by_cases h : cap = j
    · refine ⟨⟨g, 0, none⟩, by simp [h], fun t u hu => ?_⟩
      have h0 : news.length = 0 := by rw [hlen]; omega
      rw [List.length_eq_zero_iff.1 h0] at hu
      simp at hu
    · refine ⟨⟨g, j * 3, none⟩, by simp [h], fun t u hu => ?_⟩
      rw [WideShapes.add_plain]
      exact hcell t u hu
  have s1 : ∃ u, ∀ w0, (Instr.slice 32 (.slice (some ⟨g, 0, none⟩) n cap) (some (.int .i64 (i : Int))) (some (.int .i64 (j : Int))) (some (.int .i64 (n : Int)))).run Try.prog w0 = .ok u w0 := by
    refine ⟨sliced (some ⟨g, 0, none⟩) i j n 3, fun w0 => ?_⟩
    rw [run_slice_any (P := Try.prog) w0 32 (some ⟨g, 0, none⟩) n cap Try.underlying32]
    have e1 : (n : Int) ≤ (cap : Int) := by omega
    have e2 : (j : Int) ≤ (n : Int) := by omega
    have e3 : (i : Int) ≤ (j : Int) := by omega
    simp [Instr.sliceBounds, run_sliceBound, e1, e2, e3, Result.andThen, size_last]
  obtain ⟨u1, s1⟩ := s1
  have s2 : ∀ w0, (Instr.slice 32 (.slice (some ⟨g, 0, none⟩) n cap) none (some (.int .i64 (i : Int))) none).run Try.prog w0 = .ok (.slice (some ⟨g, 0, none⟩) i cap) w0 := fun w0 => by
    rw [run_slice_h (P := Try.prog) w0 32 _ n cap Try.underlying32 .i64 i (by omega) (by omega), size_last]
    simp [Result.andThen, sliced, Addr.add]
  have s3 : ∀ w0, (Instr.slice 32 (.slice (some ⟨g, 0, none⟩) n cap) (some (.int .i64 (j : Int))) none none).run Try.prog w0 = .ok (.slice (some A) (n - j) (cap - j)) w0 := fun w0 => by
    rw [run_slice_l (P := Try.prog) w0 32 _ n cap Try.underlying32 .i64 j (by omega) (by omega), size_last]
    simp only [Result.andThen, sliced, Int.toNat_natCast, Option.map_some, WideShapes.add_plain, Nat.zero_add, hA]
  have s4 : ∀ w0, (Instr.slice 32 (.slice (some ⟨g, 0, none⟩) n1 cap) (some (.int .i64 (n1 : Int))) (some (.int .i64 (n : Int))) none).run Try.prog w0 = .ok (.slice (some ⟨g, n1 * 3, none⟩) 1 (cap - n1)) w0 := fun w0 => by
    rw [run_slice_lh (P := Try.prog) w0 32 _ n1 cap Try.underlying32 .i64 .i64 n1 n (by omega) (by omega) (by omega), size_last]
    have e1 : ¬ (cap = n1) := by omega
    have e2 : n - n1 = 1 := by omega
    simp only [Result.andThen, sliced, Int.toNat_natCast, Option.map_some, WideShapes.add_plain, Nat.zero_add, e1, if_false, e2]
  obtain ⟨W1, hW1⟩ : ∃ W1, w.drew.setRow g (cur.toList.take (i * 3) ++ news ++ cur.toList.drop (i * 3 + news.length)).toArray = W1 := ⟨_, rfl⟩
  have hg1 : W1.heap[g]? = some (.cells (cur.toList.take (i * 3) ++ news ++ cur.toList.drop (i * 3 + news.length)).toArray 37 (0, 0)) := by rw [← hW1]; exact setRow_heap w.drew g _ _ _ _ hg
  obtain ⟨W2, hW2⟩ : ∃ W2, W1.setRow g (((cur.toList.take (i * 3) ++ news ++ cur.toList.drop (i * 3 + news.length)).toArray).toList.take (n1 * 3) ++ zero3 ++ ((cur.toList.take (i * 3) ++ news ++ cur.toList.drop (i * 3 + news.length)).toArray).toList.drop (n1 * 3 + 3)).toArray = W2 := ⟨_, rfl⟩
  have hcl : ∀ ty, (Builtin.clear_ #[32] ty #[.slice (some ⟨g, n1 * 3, none⟩) 1 (cap - n1)]).run Try.prog W1 = .ok (.tuple #[]) W2 := fun ty => by rw [← hW2]; exact run_clear_one W1 ty g (n1 * 3) (cap - n1) _ hg1 (by simp; omega)
  have HE : Hid (W2.ownsRow 0 37 3 (.slice (some ⟨g, 0, none⟩) n1 cap) n1 (row true (xs.eraseIdx i)) ∧ Kept (· ≠ g) w W2) := by
    rw [← hW2]
    have hrow1 : row true (xs.eraseIdx i) = cur.toList.take (i * 3) ++ news := by
      rw [List.eraseIdx_eq_take_drop_succ, row_append, hnews, ← row_take true, ← hrow, List.take_take, ← hj]
      congr 2
      omega
    have hle : (cur.toList.take (i * 3) ++ news).length = n1 * 3 := by rw [List.length_append, hlen, List.length_take, Array.length_toList]; omega
    refine ⟨⟨by rw [hrow1, hle], .inr ⟨g, cap, _, rfl, Nat.zero_le _, setRow_heap W1 g _ _ _ _ hg1, by omega, hcm, ?_, ?_⟩⟩, ?_⟩
    · simp [hlen, zero3]
      omega
    · rw [hrow1]
      simp only [List.append_assoc]
      rw [← List.append_assoc (cur.toList.take (i * 3)), ← hle, List.take_left, List.take_left]
    · rw [← hW1]
      exact ((Kept.refl _ w).drewN 1).setRow (by simp) _ |>.setRow (by simp) _
  have t1 : Hid (∀ u ∈ news, u.oneCell' = true) := by rw [hnews]; exact row_one true _
  have t2 : Hid (w.drew.heap[g]? = some (.cells cur 37 (0, 0))) := hg
  have t3 : Hid (news.length = (n - j) * 3) := hlen
  have t4 : Hid (i * 3 + news.length ≤ cur.size) := by show _ ≤ _; rw [hlen]; omega
  have t5 : Hid (w.drew.setRow g (cur.toList.take (i * 3) ++ news ++ cur.toList.drop (i * 3 + news.length)).toArray = W1) := hW1
  have g1 : ¬ ((i : Int) = (j : Int)) := by omega
  have t6 : Hid (i + (n - j) = n1) := by show _ = _; omega
  have t7 : Hid (i + (n - j) ≤ cap) := by show _ ≤ _; omega
  clear hW2 hW1 hg1 hg hrow hcell htake hlen hnews hn hn1 hj hA hcs hcm ho
  go_enter Try.func12, Try.ntmps12
  go_wp2_with fail
  go_region_law (refine step_within ?_ (.tmp 22) (.tmp 25) ?_ g i cap cur t2.out ?_ A (n - j) (cap - j) news ?_ t3.out hsrc.out t1.out t7.out t4.out n1 t6.out W1 t5.out ?_; rfl; rfl; rfl; rfl)
  go_wp2
  go_ret
  exact ⟨rfl, HE.out.1, HE.out.2⟩

set_option maxHeartbeats 400000 in
theorem forget_any {w : World} {B : Nat} {v : Value} {m : Int} {xs : List La} (h : Pt w B v m xs) (i : Nat) (hi : i < xs.length) :
    Calls Try.prog 9 #[.pointer (some ⟨B, 0, none⟩), .int .i64 i] w fun r w' => r = .returned (.tuple #[]) ∧ ∃ v', PS w w' B v v' m (xs.eraseIdx i) := by
  obtain ⟨ao, cap, rfl, -, -, hg⟩ := h.shape
  obtain ⟨g, rfl⟩ := hg (by omega)
  clear hg
  have c := delete_any h.own h.most i hi
  obtain ⟨c0, c1, f0, f1⟩ := two_cell h.self
  have hm := h.most
  have hw : IntKind.i64.wrap ((i : Int) + 1) = (i : Int) + 1 := by simp [IntKind.wrap, IntKind.bits, IntKind.signed]; omega
  have hne := h.ne
  have hlt := h.lt
  have HN : Hid (Pt w B (.slice (some ⟨g, 0, none⟩) xs.length cap) m xs) := h
  have hl : (xs.eraseIdx i).length = xs.length - 1 := List.length_eraseIdx_of_lt hi
  clear h
  go_enter Try.func9, Try.ntmps9
  go_wp2_with fail
  refine Calls.mono c ?_
  rintro e w2 ⟨rfl, ho, k2⟩
  clear c
  have hBg : B ≠ g := fun q => hne (by rw [q]; rfl)
  replace c1 := (kept_cell k2 hlt hBg).trans c1
  replace f1 := (kept_frozen k2 hlt hBg).trans f1
  go_wp2
  go_end0
  refine ⟨rfl, _, HN.out.swap (nv := .slice (some ⟨g, 0, none⟩) (xs.length - 1) cap) (ys := xs.eraseIdx i) (k2.mono (fun x _ hx q => hx (by rw [q]; rfl))) (by rw [hl]; exact ho) (fun x hx => .inl hx) (by omega)⟩

end Go.Proofs.Ytmiccehdljammaa
