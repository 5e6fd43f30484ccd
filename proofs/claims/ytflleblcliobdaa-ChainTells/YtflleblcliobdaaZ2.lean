/-
  Next: the program's, the sum of a head's bytes and a text's.
-/
import Derived.Test.YtflleblcliobdaaZ1
import Derived.Test.YtflleblcliobdaaSSha
import Derived.Lib.AppendStr
namespace Go.Proofs.Ytflleblcliobdaa
open Go.RowKit

/-- An array of bytes as a slice. -/
theorem Ar.full {w : World} {b t : Nat} {bs : List UInt8} (h : Ar w b t (cells bs)) : Has w (some ⟨b, 0, none⟩) bs := by
  intro _
  refine ⟨_, rfl, fun j hj => ?_⟩
  rw [WideShapes.add_plain, Nat.zero_add, h.cell j, cells_getElem bs j hj]

/-- An append of a text's bytes to a slice that has no room. -/
theorem append_full (w : World) (ty : TypeId) (b : Nat) (hs s : List UInt8) (hh : Has w (some ⟨b, 0, none⟩) hs) (h0 : 0 < hs.length) (hb : hs.length + s.length ≤ 140737488355328) :
    ∃ ao cap w', (Builtin.append_ #[31, 9] ty #[.slice (some ⟨b, 0, none⟩) hs.length hs.length, .string ⟨s.toArray⟩]).run Try.prog w = .ok (.slice ao (hs ++ s).length cap) w' ∧ Has w' ao (hs ++ s) ∧ (hs ++ s).length ≤ cap ∧ Kept (fun _ => True) w w' := by
  obtain ⟨i, hi, hz0, hz1, hz2⟩ := info_parts Try.infoU8
  by_cases he : s = []
  · subst he
    refine ⟨some ⟨b, 0, none⟩, hs.length, w, ?_, by simpa using hh, by simp, Kept.refl _ _⟩
    have hf := Lib.run_firstCells_string (P := Try.prog) w 1 ⟨([] : List UInt8).toArray⟩
    have e0 : (Lib.strCells ⟨([] : List UInt8).toArray⟩).toArray = #[] := rfl
    rw [e0] at hf
    have z : (⟨([] : List UInt8).toArray⟩ : ByteArray).size = 0 := rfl
    rw [z] at hf
    simp [Builtin.append_, run_underlying Try.underlying31, run_underlying Try.underlying9, sizeOf, typeInfo, hi, hz1, Builtin.lenOf, z]
    have hf' : (Builtin.firstCells 1 0 (Value.string { data := #[] })).run Try.prog w = .ok #[] w := hf
    simp [hf', storeCells]
  · have hpos : 0 < s.length := by
      rcases s with _ | ⟨x, s⟩
      · exact absurd rfl he
      · simp
    have e1 : (⟨s.toArray⟩ : ByteArray).size = s.length := by simp [ByteArray.size]
    have holds : ∀ j u, (cells hs)[j]? = some u → w.cell? ((⟨b, 0, none⟩ : Addr).add j) = some u := by
      obtain ⟨ad, e, hc⟩ := hh h0
      cases e
      exact Has.src hc
    have hr := Lib.run_append_grow_string (P := Try.prog) w 31 9 ty 5 i (.int .u8 0) Try.underlying31 Try.underlying9 hi hz0 ⟨b, 0, none⟩ hs.length hs.length (cells hs) (by rw [hz1, cells_length, Nat.mul_one]) holds ⟨s.toArray⟩ (by omega) (by omega) (by rw [hz2]; exact growslice_fits (by omega) (by omega))
    have hc := hr
    rw [e1] at hr
    refine ⟨_, _, _, by rw [List.length_append]; exact hr, ?_, ?_, (Kept.refl _ _).drew.alloc _⟩
    · intro _
      refine ⟨_, rfl, fun j hj => ?_⟩
      rw [WideShapes.add_plain, Nat.zero_add, cell_of_row _ w.heap.size j _ 5 (0, 0) (heap_alloc_new w.drew _)]
      have e2 : (cells hs).toArray ++ (Lib.strCells ⟨s.toArray⟩).toArray = (cells (hs ++ s)).toArray := by
        rw [cells_append]
        simp
        rfl
      rw [e2, Array.getElem?_append_left (by simpa [cells_length] using hj)]
      simpa using cells_getElem (hs ++ s) j hj
    · rw [List.length_append]
      exact grownCap_ge _ _ _ _
theorem wpList_append_full {w : World} {ops : Array Oper} {rest : List Oper} {o : Oper} {a : Act} {Q : Exit → Act → World → Prop} (hgd : o.guard = none) (sl x : Operand)
    (ho : o.op = .call { callee := .builtin .append, args := #[sl, x], argTypes := #[31, 9] })
    (b n : Nat) (hs s : List UInt8) (hn : hs.length = n) (hv : a.eval sl = .slice (some ⟨b, 0, none⟩) n n) (hx : a.eval x = .string ⟨s.toArray⟩) (hh : Has w (some ⟨b, 0, none⟩) hs) (h0 : 0 < n) (hb : n + s.length ≤ 140737488355328) (m : List UInt8) (hm : hs ++ s = m)
    (h : ∀ ao cap w', Has w' ao m → m.length ≤ cap → Kept (fun _ => True) w w' → wpList Try.prog ops Q rest (a.put o.dst (.slice ao m.length cap)) w') : wpList Try.prog ops Q (o :: rest) a w := by
  subst hn hm
  refine wpList_plain hgd fun K hK => ?_
  obtain ⟨ao, cap, w', hr, h2, h3, h4⟩ := append_full w o.type b hs s hh h0 hb
  unfold Oper.wp execOp
  simp only [ho, resolve, invoke, builtin, Sem.run_bind, Sem.run_pure, Result.andThen_ok, List.map_toArray, List.map_cons, List.map_nil, hv, hx, hr]
  exact hK _ _ (h ao cap w' h2 h3 h4)

/-- A whole array as a slice. -/
theorem slice_whole (B : Nat) (w0 : World) : (Instr.sliceAt 25 (.pointer (some ⟨B, 0, none⟩)) none none none).run Try.prog w0 = .ok (.slice (some ⟨B, 0, none⟩) 32 32) w0 := by
  have hu : Try.prog.underlying 25 = some (.array (Try.prog.arrayLen 25) (Try.prog.elem 25)) := by kernel_rfl
  have hn : Try.prog.arrayLen 25 = 32 := by kernel_rfl
  have he : Try.prog.elem 25 = Try.prog.elem 31 := by kernel_rfl
  rw [run_sliceAt_array_all (P := Try.prog) w0 25 ⟨B, 0, none⟩ hu, he, size_u8, hn]
  simp [Result.andThen, slicedAt, Addr.add]

set_option maxRecDepth 100000 in
set_option maxHeartbeats 1000000 in
theorem next_any {w : World} (h t : List UInt8) (hl : h.length = 32) (ht : t.length ≤ 100000000000000) :
    Calls Try.prog 27 #[.agg (cells h).toArray, .string ⟨t.toArray⟩] w fun e w' => e = .returned (.agg (cells (nxt h t)).toArray) ∧ Kept (fun _ => True) w w' := by
  have ln : (cells (nxt h t)).length = 32 := by rw [cells_length, nxt_len]
  have on := cells_one (nxt h t)
  have hsl := slice_whole w.heap.size
  obtain ⟨xs, hxs⟩ : ∃ xs, xs = cells (nxt h t) := ⟨_, rfl⟩
  rw [← hxs] at ln on ⊢
  obtain ⟨m, hm⟩ : ∃ m, h ++ t = m := ⟨_, rfl⟩
  have SH : ∀ (w0 : World) (ao : Option Addr) (cap : Nat), Has w0 ao m → m.length ≤ cap → Calls Try.prog 49 #[.slice ao m.length cap] w0 fun e w' => e = .returned (.agg xs.toArray) ∧ Kept (fun _ => True) w0 w' := fun w0 ao cap h1 h2 => by
    rw [hxs]
    unfold nxt
    rw [hm]
    exact sha_any h1 h2 (by rw [← hm, List.length_append]; omega)
  have HM : Hid (h ++ t = m) := hm
  clear hxs hm
  go_enter Try.func27, Try.ntmps27
  go_wp2_with (first
    | ((with_reducible refine w_box (d := some 2) (cells h) ?hx ?hn); (case hx => rfl); intro w1 a2 k1 s1)
    | ((with_reducible refine w_alloc (d := some 4) arr32 ?_); intro w2 a4 k2 s2)
    | (at_builtin; refine wpList_append_full rfl (.tmp 5) (.tmp 6) rfl w.heap.size 32 h t hl rfl rfl ((a2.kept k2 trivial).full) (by decide) (by omega) m HM.out ?_; intro ao cap w3 hh3 hc3 k3)
    | (go_at_call 49; (with_reducible refine Calls.mono (SH _ ao cap hh3 hc3) ?_); rintro e w5 ⟨rfl, k5⟩)
    | ((with_reducible apply w_store (x := .tmp 4) (b := w1.heap.size) (xs := xs) (old := List.replicate 32 (.int .u8 0)) arr32); (case hx => rfl); (case hy => rfl); (case ha => exact (a4.kept k3 trivial).kept k5 trivial); (case ho => simp); (case hl => exact ln); (case h1 => exact on); intro w6 a6 k6 s6))
  have q1 := s1.out
  have q2 := s2.out
  refine bodyPost_ret (results_ar (p := 4) arr32 rfl _ _ rfl a6 ln) rfl ⟨rfl, ?_⟩
  exact (((k1.trans k2).trans k3).trans k5).then k6 (fun i hi _ => by omega)

end Go.Proofs.Ytflleblcliobdaa
