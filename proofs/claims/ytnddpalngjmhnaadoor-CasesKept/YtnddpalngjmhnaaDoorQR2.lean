/-
  The document's Words: rows of words in memory.
-/
import Derived.Test.YtnddpalngjmhnaaDoorQR1
namespace Go.Proofs.YtnddpalngjmhnaaDoor
open Go.RowKit

/-- The two cells of a word. -/
def wlay (x : Nat × List UInt8) : List Value := [.int .i64 (x.1 : Nat), .string ⟨x.2.toArray⟩]
def wrow (xs : List (Nat × List UInt8)) : List Value := xs.flatMap wlay
theorem wrow_cons (x : Nat × List UInt8) (xs : List (Nat × List UInt8)) : wrow (x :: xs) = wlay x ++ wrow xs := rfl
theorem wrow_length (xs : List (Nat × List UInt8)) : (wrow xs).length = xs.length * 2 := by
  induction xs with
  | nil => rfl
  | cons x xs ih => rw [wrow_cons]; simp [ih, wlay]; omega
theorem wrow_append (xs ys : List (Nat × List UInt8)) : wrow (xs ++ ys) = wrow xs ++ wrow ys := by simp [wrow]
theorem wrow_get : ∀ (xs : List (Nat × List UInt8)) (k : Nat) (h : k < xs.length) (j : Nat), j < 2 → (wrow xs)[k * 2 + j]? = (wlay xs[k])[j]?
  | x :: xs, 0, _, j, hj => by
    rw [wrow_cons, Nat.zero_mul, Nat.zero_add, List.getElem?_append_left (by simpa [wlay] using hj)]
    rfl
  | x :: xs, k + 1, h, j, hj => by
    have := wrow_get xs k (by simpa using h) j hj
    rw [wrow_cons, show (k + 1) * 2 + j = 2 + (k * 2 + j) by omega, List.getElem?_append_right (by simp [wlay]), show (wlay x).length = 2 from rfl, Nat.add_sub_cancel_left, this]
    rfl
theorem wrow_one (xs : List (Nat × List UInt8)) : ∀ u ∈ wrow xs, u.oneCell' = true := by
  intro u hu
  obtain ⟨x, _, hm⟩ := List.mem_flatMap.1 hu
  simp [wlay] at hm
  rcases hm with rfl | rfl <;> rfl
theorem Tryd.infoRW : (Tryd.prog.info? 102).map (fun i => (i.zero, i.size, i.bytes)) = some (some (.agg #[.int .i64 0, .string .empty]), 2, 24) := by kernel_rfl
theorem cells_rw : (Value.agg #[.int .i64 0, .string .empty]).cells.size = 2 := by simp [Value.cells]

/-- A slice of words, in a row of its own behind 'base'. -/
def Wr (w : World) (base : Nat) (v : Value) (ws : List (Nat × List UInt8)) : Prop := w.ownsRow base 102 2 v ws.length (wrow ws)
theorem Wr.nil (w : World) (base : Nat) : Wr w base (.slice none 0 0) [] := World.ownsRow_nil _ _ _ _
theorem Wr.kept {p : Nat → Prop} {w w' : World} {base : Nat} {v : Value} {ws : List (Nat × List UInt8)} (h : Wr w base v ws) (hk : Kept p w w') (hp : ∀ k, v.ownBlock = some k → p k) : Wr w' base v ws := by
  refine ⟨h.1, ?_⟩
  rcases h.2 with h0 | ⟨g, cap, cur, rfl, hb, hh, rest⟩
  · exact .inl h0
  · exact .inr ⟨g, cap, cur, rfl, hb, (hk.block g (lt_of_block hh) (hp g rfl)).trans hh, rest⟩
theorem Wr.shape {w : World} {base : Nat} {v : Value} {ws : List (Nat × List UInt8)} (h : Wr w base v ws) : ∃ ao cap, v = .slice ao ws.length cap ∧ ws.length ≤ cap ∧ (0 < ws.length → ∃ g, ao = some ⟨g, 0, none⟩) := by
  rcases h.2 with ⟨hv, h0⟩ | ⟨g, cap, cur, hv, _, hh, hc, _⟩
  · exact ⟨none, 0, by rw [hv, h0], by omega, fun hp => by omega⟩
  · exact ⟨_, cap, hv, hc, fun _ => ⟨g, rfl⟩⟩
theorem append_word (w : World) (ty : TypeId) (base : Nat) (v : Value) (ws : List (Nat × List UInt8)) (h : Wr w base v ws) (hb : base ≤ w.heap.size) (G : Nat) (x : Nat × List UInt8) (fr : Nat × Nat) (hG : w.heap[G]? = some (.cells (wlay x).toArray 102 fr)) (hm : ws.length ≤ 1000000) :
    ∃ ao' cap' w', (Builtin.append_ #[95, 95] ty #[v, .slice (some ⟨G, 0, none⟩) 1 1]).run Tryd.prog w = .ok (.slice ao' (ws.length + 1) cap') w' ∧ Wr w' base (.slice ao' (ws.length + 1) cap') (ws ++ [x]) ∧ w.grownBy w' v.ownBlock := by
  obtain ⟨i, hi, hz0, hz1, hz2⟩ := info_parts Tryd.infoRW
  have hG' : w.heap[G]? = some (.cells (wrow [x]).toArray 102 fr) := by rw [hG]; simp [wrow]
  obtain ⟨v', w', hr, h2, h3, _, h5⟩ := run_append_own_at (P := Tryd.prog) w base 95 ty 102 i (.agg #[.int .i64 0, .string .empty]) 2 24 Tryd.underlying95 hi hz0 hz1 hz2 cells_rw (by decide) v ws.length (wrow ws) h ⟨G, 0, none⟩ 1 1 (wrow [x]) (by rw [wrow_length]; rfl) (World.news_of_block (w := w) hG') (wrow_one [x]) (by unfold maxLen; omega) (by omega) hb
  obtain ⟨ao', cap', rfl⟩ := own_shape_any h2
  refine ⟨ao', cap', w', hr, ?_, h3⟩
  unfold Wr
  rw [wrow_append, List.length_append]
  exact h2
theorem wpList_append_word {w : World} {ops : Array Oper} {rest : List Oper} {o : Oper} {a : Act} {Q : Exit → Act → World → Prop} (hgd : o.guard = none) (sl y : Operand) (ho : o.op = .call { callee := .builtin .append, args := #[sl, y], argTypes := #[95, 95] })
    (base : Nat) (v : Value) (ws : List (Nat × List UInt8)) (hs : a.eval sl = v) (h : Wr w base v ws) (hb : base ≤ w.heap.size) (G : Nat) (hy : a.eval y = .slice (some ⟨G, 0, none⟩) 1 1) (x : Nat × List UInt8) (fr : Nat × Nat) (hG : w.heap[G]? = some (.cells (wlay x).toArray 102 fr)) (hm : ws.length ≤ 1000000)
    (hK : ∀ ao' cap' w', Wr w' base (.slice ao' (ws.length + 1) cap') (ws ++ [x]) → w.grownBy w' v.ownBlock → wpList Tryd.prog ops Q rest (a.put o.dst (.slice ao' (ws.length + 1) cap')) w') : wpList Tryd.prog ops Q (o :: rest) a w := by
  refine wpList_plain hgd fun K hK' => ?_
  obtain ⟨ao', cap', w', hr, h2, h3⟩ := append_word w o.type base v ws h hb G x fr hG hm
  unfold Oper.wp execOp
  simp only [ho, resolve, invoke, builtin, Sem.run_bind, Sem.run_pure, Result.andThen_ok, List.map_toArray, List.map_cons, List.map_nil, hs, hy, hr]
  exact hK' _ _ (hK ao' cap' w' h2 h3)
theorem Wr.grown {w0 w w' : World} {o : Obj} {v : Value} {ws : List (Nat × List UInt8)} (h : Wr w w0.heap.size v ws) (k : Kept (fun _ => True) w0 w) (g : (w.alloc o).grownBy w' v.ownBlock) : Kept (fun _ => True) w0 w' :=
  (k.alloc o).grown g (fun i hi e => by have := (World.ownsRow.lt h i e).1; omega)
/-- Words that are looked at, from anywhere on. -/
def Wv (w : World) (v : Value) (ws : List (Nat × List UInt8)) : Prop :=
  ∃ ao cap, v = .slice ao ws.length cap ∧ ws.length ≤ cap ∧ (0 < ws.length → ∃ b off, ao = some ⟨b, off, none⟩ ∧ b < w.heap.size ∧ ∀ i (h : i < ws.length), w.cell? ⟨b, off + i * 2, none⟩ = some (.int .i64 ((ws[i]).1 : Nat)) ∧ w.cell? ⟨b, off + i * 2 + 1, none⟩ = some (.string ⟨((ws[i]).2).toArray⟩))
theorem Wv.all {w w' : World} {v : Value} {ws : List (Nat × List UInt8)} (h : Wv w v ws) (k : Kept (fun _ => True) w w') : Wv w' v ws := by
  obtain ⟨ao, cap, e, hc, h⟩ := h
  refine ⟨ao, cap, e, hc, fun h0 => ?_⟩
  obtain ⟨b, off, e, hb, hx⟩ := h h0
  exact ⟨b, off, e, Nat.lt_of_lt_of_le hb k.size, fun i hi => ⟨(kept_cell k hb trivial).trans (hx i hi).1, (kept_cell k hb trivial).trans (hx i hi).2⟩⟩
theorem Wr.view {w : World} {base : Nat} {v : Value} {ws : List (Nat × List UInt8)} (h : Wr w base v ws) : Wv w v ws := by
  have h' : w.ownsRow base 102 2 v ws.length (wrow ws) := h
  rcases h.2 with ⟨hv, h0⟩ | ⟨g, cap, cur, rfl, _, hh, hc, _⟩
  · exact ⟨none, 0, by rw [hv, h0], by omega, fun hp => by omega⟩
  · refine ⟨_, cap, rfl, hc, fun _ => ⟨g, 0, rfl, lt_of_block hh, fun i hi => ⟨?_, ?_⟩⟩⟩
    · rw [Nat.zero_add]
      exact (h'.cellAt (i * 2) (by omega)).trans (wrow_get ws i hi 0 (by omega))
    · rw [Nat.zero_add]
      exact (h'.cellAt (i * 2 + 1) (by omega)).trans (wrow_get ws i hi 1 (by omega))

set_option maxRecDepth 100000 in
set_option maxHeartbeats 2000000 in
theorem words_any {w : World} (s : List UInt8) (hs : s.length ≤ 10000) :
    Calls Tryd.prog 66 #[.string ⟨s.toArray⟩, .int .i64 0] w fun e w' => (∃ v, e = .returned v ∧ Wr w' w.heap.size v (Wo s 0)) ∧ Kept (fun _ => True) w w' := by
  have HS : Hid (s.length ≤ 10000) := hs
  go_enter Tryd.func66, Tryd.ntmps66
  go_wp2_with fail
  go_loopw [5, 6, 7] (fun t5 t6 _ wr => ∃ (i : Nat) (dn : List (Nat × List UInt8)), i ≤ s.length ∧ t6 = .int .i64 (i : Nat) ∧ dn ++ Wo s i = Wo s 0 ∧ dn.length ≤ i ∧ Wr wr w.heap.size t5 dn ∧ Kept (fun _ => True) w wr) (fun _ t6 _ _ => s.length - (intOf t6).toNat)
  case atStart => exact ⟨0, [], Nat.zero_le _, rfl, rfl, Nat.le_refl _, Wr.nil _ _, Kept.refl _ _⟩
  case round =>
    obtain ⟨i, dn, hi, rfl, hd, hdl, hw, hk⟩ := hrel
    have HD : Hid (dn ++ Wo s i = Wo s 0) := hd
    have HK : Hid (Kept (fun _ => True) w wr) := hk
    obtain ⟨ao, cap, rfl, -, -⟩ := hw.shape
    have HW : Hid (Wr wr w.heap.size (.slice ao dn.length cap) dn) := hw
    clear hd hw hk
    by_cases hlt : i < s.length
    · have hx := at_text s i hlt (by simpa [ByteArray.size] using hlt)
      have i1 : (i : Int) < (s.length : Int) := by omega
      have i0 : (0 : Int) ≤ (i : Int) := by omega
      by_cases hc : s[i] = 32
      · have HB : Hid (Wo s i = Wo s (i + 1)) := Wo_blank hlt hc
        rw [hc] at hx
        clear hc
        go_wp2_with fail
        go_roundw
        case rel => exact ⟨i + 1, dn, by omega, by go_num, by rw [← HB.out]; exact HD.out, by omega, HW.out, HK.out⟩
        case measure => simp [intOf]; omega
      · obtain ⟨e, hE⟩ := At1.mk' (Nat.le_refl i) hlt hc rfl
        have HE : Hid (At1 s i i e) := hE
        have hie := hE.some
        have hel := hE.within
        have hc' : ((s[i].toNat : Int) == 32) = false := by simp only [beq_eq_false_iff_ne, ne_eq]; intro q; exact hc (UInt8.toNat_inj.1 (by simpa using (by omega : s[i].toNat = 32)))
        clear hc hE
        generalize s[i] = ch at *
        go_wp2_with fail
        go_loop [7] (fun t7 => ∃ k : Nat, i ≤ k ∧ k ≤ e ∧ t7 = .int .i64 (k : Nat)) (fun t7 => e - (intOf t7).toNat)
        case atStart => exact ⟨i, Nat.le_refl _, by omega, rfl⟩
        case round =>
          obtain ⟨k, hk1, hk2, rfl⟩ := hrel
          rcases HE.out.out hk1 hk2 with ⟨hl, h5, h6⟩ | ⟨h5, h6⟩ | ⟨h5, hl, h6⟩
          · have hy := at_text s k hl (by simpa [ByteArray.size] using hl)
            have j1 : (k : Int) < (s.length : Int) := by omega
            have j0 : (0 : Int) ≤ (k : Int) := by omega
            have h6' : ((s[k].toNat : Int) == 32) = false := by simp only [beq_eq_false_iff_ne, ne_eq]; intro q; exact h6 (UInt8.toNat_inj.1 (by simpa using (by omega : s[k].toNat = 32)))
            clear h6
            generalize s[k] = ck at *
            go_wp2_with fail
            go_round
            case rel => exact ⟨k + 1, by omega, by omega, by go_num⟩
            case measure => simp [intOf]; omega
          · have j1 : ¬ (k : Int) < (s.length : Int) := by omega
            clear h6
            have HKE : Hid (k = e) := h5
            have hcut := cut_text s i k hk1 (by omega)
            have HTX : Hid (dn ++ [(i, tex s i k)] ++ Wo s k = Wo s 0) := by
              show _ = _
              rw [← HD.out, HE.out.words, HKE.out]
              simp
            generalize tex s i k = x at *
            clear h5
            go_wp2_with (at_builtin; refine wpList_append_word rfl (.tmp 31) (.tmp 40) rfl w.heap.size (.slice ao dn.length cap) dn rfl (HW.out.kept (p := fun _ => True) ((Kept.refl _ _).alloc _) (fun _ _ => trivial)) (Nat.le_trans HK.out.size (by simp)) wr.heap.size rfl (i, x) (0, 0) (heap_alloc_new _ _) (by omega) ?_; intro ao2 cap2 w2 t2 g2)
            go_roundw
            case rel => exact ⟨k, dn ++ [(i, x)], by omega, rfl, HTX.out, by have := HKE.out; simp; omega, by simpa using t2, HW.out.grown HK.out g2⟩
            case measure => have := HKE.out; simp [intOf]; omega
          · have j1 : (k : Int) < (s.length : Int) := by omega
            have j0 : (0 : Int) ≤ (k : Int) := by omega
            have hy := at_text s k hl (by simpa [ByteArray.size] using hl)
            rw [h6] at hy
            clear h6
            have HKE : Hid (k = e) := h5
            have hcut := cut_text s i k hk1 (by omega)
            have HTX : Hid (dn ++ [(i, tex s i k)] ++ Wo s k = Wo s 0) := by
              show _ = _
              rw [← HD.out, HE.out.words, HKE.out]
              simp
            generalize tex s i k = x at *
            clear h5
            go_wp2_with (at_builtin; refine wpList_append_word rfl (.tmp 31) (.tmp 40) rfl w.heap.size (.slice ao dn.length cap) dn rfl (HW.out.kept (p := fun _ => True) ((Kept.refl _ _).alloc _) (fun _ _ => trivial)) (Nat.le_trans HK.out.size (by simp)) wr.heap.size rfl (i, x) (0, 0) (heap_alloc_new _ _) (by omega) ?_; intro ao2 cap2 w2 t2 g2)
            go_roundw
            case rel => exact ⟨k, dn ++ [(i, x)], by omega, rfl, HTX.out, by have := HKE.out; simp; omega, by simpa using t2, HW.out.grown HK.out g2⟩
            case measure => have := HKE.out; simp [intOf]; omega
    · have i1 : ¬ (i : Int) < (s.length : Int) := by omega
      go_wp2_with fail
      go_ret
      refine ⟨⟨_, rfl, ?_⟩, HK.out⟩
      have e : Wo s i = [] := Wo_end (by omega)
      have := HD.out
      rw [e, List.append_nil] at this
      rw [← this]
      exact HW.out

end Go.Proofs.YtnddpalngjmhnaaDoor
