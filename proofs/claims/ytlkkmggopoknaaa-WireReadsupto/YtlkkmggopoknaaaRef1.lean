/-
  The document's own writers (conclaveref1): appends to slices of bytes that were made here.
-/
import Derived.Test.YtlkkmggopoknaaaKnown
import Derived.Test.YtlkkmggopoknaaaBack
import Derived.Maps.AppendAt
import Derived.Laws.AppendOwnNone
import Derived.Deep.Onto
namespace Go.Proofs.Ytlkkmggopoknaaa
open Go.RowKit

/-- A slice value of the bytes bs. -/
def Sl (w : World) (v : Value) (bs : List UInt8) : Prop := ∃ ao cap, v = .slice ao bs.length cap ∧ (ao = none → cap = 0) ∧ Has w ao bs

theorem own_sl {w : World} {b : Nat} {v : Value} {bs : List UInt8} (h : w.ownsRow b 5 1 v bs.length (cells bs)) : Sl w v bs := by
  rcases h.2 with ⟨rfl, h0⟩ | ⟨g, cap, cur, rfl, _⟩
  · exact ⟨none, 0, by rw [h0], fun _ => rfl, by intro h; omega⟩
  · exact ⟨_, _, rfl, by simp, own_has h⟩

theorem append_has (w : World) (ty : TypeId) (base : Nat) (v : Value) (n : Nat) (xs : List Value) (hown : w.ownsRow base 5 1 v n xs) (hbase : base ≤ w.heap.size) (ao : Option Addr) (m cap : Nat) (bs : List UInt8) (hm : bs.length = m) (hn : ao = none → cap = 0) (hs : Has w ao bs) (hb : n + m ≤ 140737488355328) :
    ∃ v' w', (Builtin.append_ #[26, 26] ty #[v, .slice ao m cap]).run Try.prog w = .ok v' w' ∧ w'.ownsRow base 5 1 v' (n + m) (xs ++ cells bs) ∧ w.grownBy w' v.ownBlock ∧
      (v'.ownBlock = v.ownBlock ∨ v'.ownBlock = some w.heap.size) := by
  obtain ⟨i, hi, hz0, hz1, hz2⟩ := info_parts Try.infoU8
  subst hm
  cases ao with
  | none =>
    have hc := hn rfl
    have h0 : bs.length = 0 := by
      rcases Nat.eq_zero_or_pos bs.length with h | h
      · exact h
      · obtain ⟨ad, e, _⟩ := hs h; cases e
    subst hc
    have : bs = [] := List.eq_nil_of_length_eq_zero h0
    subst this
    have hrun := run_append_owned_none (P := Try.prog) (w := w) base 26 ty 5 i 1 Try.underlying26 hi v n xs hown
    exact ⟨v, w, hrun, by simpa [cells] using hown, ⟨rfl, rfl, rfl, Nat.le_refl _, fun _ _ _ => rfl⟩, .inl rfl⟩
  | some ad =>
    have hsrc : ∀ j u, (cells bs)[j]? = some u → w.cell? (ad.add j) = some u := by
      intro j u hu
      have hj : j < bs.length := by
        have := (List.getElem?_eq_some_iff.1 hu).1
        simpa [cells] using this
      obtain ⟨ad', e, hc⟩ := hs (by omega)
      cases e
      exact Has.src hc j u hu
    obtain ⟨v', w', hr, h1, h2, _, h4⟩ := run_append_own_at (P := Try.prog) w base 26 ty 5 i (.int .u8 0) 1 1 Try.underlying26 hi hz0 hz1 hz2 rfl (by decide) v n xs hown ad bs.length cap (cells bs) (by simp [cells_length]) hsrc (cells_one bs) (by unfold maxLen; omega) (by omega) hbase
    exact ⟨v', w', hr, h1, h2, h4⟩

/-- The same at the operation, for the walk. -/
theorem wpList_append_has {w : World} {ops : Array Oper} {rest : List Oper} {o : Oper} {a : Act} {Q : Exit → Act → World → Prop} (hgd : o.guard = none) (sl x : Operand)
    (ho : o.op = .call { callee := .builtin .append, args := #[sl, x], argTypes := #[26, 26] })
    (base : Nat) (v : Value) (n : Nat) (xs : List Value) (hs : a.eval sl = v) (hown : w.ownsRow base 5 1 v n xs) (hbase : base ≤ w.heap.size) (ao : Option Addr) (m cap : Nat) (hx : a.eval x = .slice ao m cap) (bs : List UInt8) (hm : bs.length = m) (hn : ao = none → cap = 0) (hh : Has w ao bs) (hb : n + m ≤ 140737488355328)
    (h : ∀ ao' cap' w', w'.ownsRow base 5 1 (.slice ao' (n + m) cap') (n + m) (xs ++ cells bs) → w.grownBy w' v.ownBlock → ((Value.slice ao' (n + m) cap').ownBlock = v.ownBlock ∨ (Value.slice ao' (n + m) cap').ownBlock = some w.heap.size) → wpList Try.prog ops Q rest (a.put o.dst (.slice ao' (n + m) cap')) w') : wpList Try.prog ops Q (o :: rest) a w := by
  refine wpList_plain hgd fun K hK => ?_
  obtain ⟨v', w', hr, h2, h3, h4⟩ := append_has w o.type base v n xs hown hbase ao m cap bs hm hn hh hb
  obtain ⟨ao', cap', rfl⟩ := own_shape h2
  unfold Oper.wp execOp
  simp only [ho, resolve, invoke, builtin, Sem.run_bind, Sem.run_pure, Result.andThen_ok, List.map_toArray, List.map_cons, List.map_nil, hs, hx, hr]
  exact hK _ _ (h ao' cap' w' h2 h3 h4)

/-- An empty row that has just been made. -/
theorem own_new (w : World) (base : Nat) (hb : base ≤ w.heap.size) : (w.alloc (.cells #[] 5)).ownsRow base 5 1 (.slice (some ⟨w.heap.size, 0, none⟩) 0 0) 0 [] :=
  ⟨by simp, .inr ⟨w.heap.size, 0, #[], rfl, hb, heap_alloc_new w _, Nat.zero_le _, by unfold maxLen; omega, by simp, by simp⟩⟩

theorem byte0 (n : Int) : IntKind.u8.wrap n = ((byteAt (u64 n) 0).toNat : Int) := by
  rw [byteAt_toNat]
  simp [u64, IntKind.wrap, IntKind.bits, IntKind.signed]; omega
theorem byte1 (n : Int) : IntKind.u8.wrap (n / 256) = ((byteAt (u64 n) 1).toNat : Int) := by
  rw [byteAt_toNat]
  simp [u64, IntKind.wrap, IntKind.bits, IntKind.signed]; omega
theorem byte2 (n : Int) : IntKind.u8.wrap (n / 65536) = ((byteAt (u64 n) 2).toNat : Int) := by
  rw [byteAt_toNat]
  simp [u64, IntKind.wrap, IntKind.bits, IntKind.signed]; omega
theorem byte3 (n : Int) : IntKind.u8.wrap (n / 16777216) = ((byteAt (u64 n) 3).toNat : Int) := by
  rw [byteAt_toNat]
  simp [u64, IntKind.wrap, IntKind.bits, IntKind.signed]; omega

/-- An append onto a row that was made just now. -/
theorem fresh_one {w w1 : World} {o : Obj} (hg1 : (w.alloc o).grownBy w1 (some w.heap.size)) : Kept (fun _ => True) w w1 :=
  ((Kept.refl _ _).alloc o).grown hg1 (fun k hk e => by cases e; omega)
/-- Two appends, the first onto a row that was made just now. -/
theorem fresh_two {w w1 w2 : World} {o o1 : Obj} {v : Value} (hg1 : (w.alloc o).grownBy w1 (some w.heap.size)) (hg2 : (w1.alloc o1).grownBy w2 v.ownBlock) (hl : v.ownBlock = some w.heap.size ∨ v.ownBlock = some (w.alloc o).heap.size) : Kept (fun _ => True) w w2 := by
  have k1 : Kept (fun _ => True) w w1 := ((Kept.refl _ _).alloc o).grown hg1 (fun k hk e => by cases e; omega)
  refine (k1.alloc o1).grown hg2 (fun k hk e => ?_)
  rcases hl with h | h
  · rw [h] at e; cases e; omega
  · rw [h] at e; cases e; simp at hk; omega

set_option maxHeartbeats 400000 in
theorem rbyte_any {w : World} {v : Value} {bs : List UInt8} (n : Int) (h : Sl w v bs) (hb : bs.length + 1 ≤ 140737488355328) :
    Calls Try.prog 40 #[v, .int .i64 n] w fun e w' => ∃ r, e = .returned r ∧ w'.ownsRow w.heap.size 5 1 r (bs ++ enc (u64 n) 1).length (cells (bs ++ enc (u64 n) 1)) ∧ Kept (fun _ => True) w w' := by
  obtain ⟨ao, cap, rfl, hn, hh⟩ := h
  have HN : Hid (ao = none → cap = 0) := hn
  have HH : Hid (Has w ao bs) := hh
  have HW := byte0 n
  clear hn hh
  go_enter Try.func40, Try.ntmps40
  go_wp2_with (first
    | (at_builtin; refine wpList_append_has rfl (.tmp 5) (.tmp 6) rfl w.heap.size (.slice (some ⟨w.heap.size, 0, none⟩) 0 0) 0 [] rfl (own_new w _ (Nat.le_refl _)) (by simp) ao bs.length cap rfl bs rfl HN.out (HH.out.kept ((Kept.refl (fun _ => True) w).alloc _) (fun _ _ => trivial)) (by omega) ?_; intro a1 c1 w1 ho1 hg1 hl1; simp only [Nat.zero_add, List.nil_append] at ho1 hl1)
    | (at_builtin; refine wpList_append_has rfl (.tmp 7) (.tmp 10) rfl w.heap.size (.slice a1 bs.length c1) bs.length (cells bs) rfl (ho1.alloc _) (by have := hg1.size; simp at this ⊢; omega) _ 1 1 rfl [byteAt (u64 n) 0] rfl (by simp) (has_row (heap_alloc_new w1 _)) (by omega) ?_; intro a2 c2 w2 ho2 hg2 hl2))
  go_ret
  refine ⟨_, rfl, ?_, ?_⟩
  · rw [cells_append]
    simpa [enc, List.length_append] using ho2
  · exact fresh_two hg1 hg2 hl1

/-- A row that lies where a fresh one lay, or in a new block, is fresh. -/
theorem own_up {w1 w2 : World} {b n n1 : Nat} {v v1 : Value} {xs xs1 : List Value} (h : w2.ownsRow 0 5 1 v n xs) (h1 : w1.ownsRow b 5 1 v1 n1 xs1) (hB : b ≤ w1.heap.size) (hat : v1.ownBlock = v.ownBlock ∨ ∃ g, v.ownBlock = some g ∧ w1.heap.size ≤ g) : w2.ownsRow b 5 1 v n xs := by
  refine ⟨h.1, ?_⟩
  rcases h.2 with h0 | ⟨g, cap, cur, rfl, _, rest⟩
  · exact .inl h0
  · refine .inr ⟨g, cap, cur, rfl, ?_, rest⟩
    rcases hat with e | ⟨g', e, hg'⟩
    · exact (h1.lt g e).1
    · have : g = g' := by simpa [Value.ownBlock] using e
      omega

set_option maxHeartbeats 400000 in
theorem rfour_any {w : World} {v : Value} {bs : List UInt8} (n : Int) (h : Sl w v bs) (hb : bs.length + 4 ≤ 140737488355328) :
    Calls Try.prog 41 #[v, .int .i64 n] w fun e w' => ∃ r, e = .returned r ∧ w'.ownsRow w.heap.size 5 1 r (bs ++ enc (u64 n) 4).length (cells (bs ++ enc (u64 n) 4)) ∧ Kept (fun _ => True) w w' := by
  obtain ⟨ao, cap, rfl, hn, hh⟩ := h
  have HN : Hid (ao = none → cap = 0) := hn
  have HH : Hid (Has w ao bs) := hh
  have HW0 := byte0 n
  have HW1 := byte1 n
  have HW2 := byte2 n
  have HW3 := byte3 n
  clear hn hh
  go_enter Try.func41, Try.ntmps41
  go_wp2_with (first
    | (at_builtin; refine wpList_append_has rfl (.tmp 5) (.tmp 6) rfl w.heap.size (.slice (some ⟨w.heap.size, 0, none⟩) 0 0) 0 [] rfl (own_new w _ (Nat.le_refl _)) (by simp) ao bs.length cap rfl bs rfl HN.out (HH.out.kept ((Kept.refl (fun _ => True) w).alloc _) (fun _ _ => trivial)) (by omega) ?_; intro a1 c1 w1 ho1 hg1 hl1; simp only [Nat.zero_add, List.nil_append] at ho1 hl1)
    | (at_builtin; refine wpList_append_has rfl (.tmp 7) (.tmp 19) rfl w.heap.size (.slice a1 bs.length c1) bs.length (cells bs) rfl (ho1.alloc _) (by have := hg1.size; simp at this ⊢; omega) _ 4 4 rfl [byteAt (u64 n) 3, byteAt (u64 n) 2, byteAt (u64 n) 1, byteAt (u64 n) 0] rfl (by simp) (has_row (heap_alloc_new w1 _)) (by omega) ?_; intro a2 c2 w2 ho2 hg2 hl2))
  go_ret
  refine ⟨_, rfl, ?_, ?_⟩
  · rw [cells_append]
    simpa [enc, List.length_append] using ho2
  · exact fresh_two hg1 hg2 hl1

set_option maxHeartbeats 400000 in
theorem rtext_any {w : World} {v : Value} {bs : List UInt8} (s : ByteArray) (h : Sl w v bs) (hb : bs.length + 4 + s.size ≤ 140737488355328) :
    Calls Try.prog 36 #[v, .string s] w fun e w' => ∃ r, e = .returned r ∧ w'.ownsRow w.heap.size 5 1 r (bs ++ enc (u64 s.size) 4 ++ s.data.toList).length (cells (bs ++ enc (u64 s.size) 4 ++ s.data.toList)) ∧ Kept (fun _ => True) w w' := by
  have c := rfour_any s.size h (by omega)
  have HL : Hid ((bs ++ enc (u64 s.size) 4).length + s.size ≤ 140737488355328) := by
    show _ ≤ _
    simp [enc_length]; omega
  generalize bs ++ enc (u64 s.size) 4 = cur at *
  go_enter Try.func36, Try.ntmps36
  go_wp2_with (first
    | (go_at_call 41; refine Calls.mono c ?_; rintro e w1 ⟨r, rfl, h1, h2⟩; obtain ⟨ao, cap, rfl⟩ := own_shape h1)
    | (at_builtin; refine wpList_append_str rfl _ _ rfl (.slice ao cur.length cap) cur.length (cells cur) rfl (h1.mono (Nat.zero_le _)) s rfl HL.out ?_; intro a2 c2 w2 ho hgr hat))
  go_ret
  refine ⟨_, rfl, ?_, ?_⟩
  · rw [cells_append, List.length_append]
    exact own_up ho h1 h2.size hat
  · exact h2.grown hgr (fun k hk e => by have := (h1.lt k e).1; omega)

end Go.Proofs.Ytlkkmggopoknaaa
