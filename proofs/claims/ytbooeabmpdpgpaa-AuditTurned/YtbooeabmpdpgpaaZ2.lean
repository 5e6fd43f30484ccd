/-
  Next: the program's, the sum of a head's bytes and a text's.
-/
import Derived.Test.YtbooeabmpdpgpaaZ1
import Derived.Test.YtbooeabmpdpgpaaSSha
import Derived.Lib.AppendStr
namespace Go.Proofs.Ytbooeabmpdpgpaa
open Go.RowKit

/-- An array of bytes as a slice. -/
theorem Ar.full {w : World} {b t : Nat} {bs : List UInt8} (h : Ar w b t (cells bs)) : Has w (some ⟨b, 0, none⟩) bs := by
  intro _
  refine ⟨_, rfl, fun j hj => ?_⟩
  rw [WideShapes.add_plain, Nat.zero_add, h.cell j, cells_getElem bs j hj]

/-- An append of a text's bytes to a slice that has no room. -/
theorem append_full (w : World) (ty : TypeId) (b : Nat) (hs s : List UInt8) (hh : Has w (some ⟨b, 0, none⟩) hs) (h0 : 0 < hs.length) (hb : hs.length + s.length ≤ 140737488355328) :
    ∃ ao cap w', (Builtin.append_ #[25, 9] ty #[.slice (some ⟨b, 0, none⟩) hs.length hs.length, .string ⟨s.toArray⟩]).run Try.prog w = .ok (.slice ao (hs ++ s).length cap) w' ∧ Has w' ao (hs ++ s) ∧ (hs ++ s).length ≤ cap ∧ Kept (fun _ => True) w w' := by
  obtain ⟨i, hi, hz0, hz1, hz2⟩ := info_parts Try.infoU8
  by_cases he : s = []
  · subst he
    refine ⟨some ⟨b, 0, none⟩, hs.length, w, ?_, by simpa using hh, by simp, Kept.refl _ _⟩
    have hf := Lib.run_firstCells_string (P := Try.prog) w 1 ⟨([] : List UInt8).toArray⟩
    have e0 : (Lib.strCells ⟨([] : List UInt8).toArray⟩).toArray = #[] := rfl
    rw [e0] at hf
    have z : (⟨([] : List UInt8).toArray⟩ : ByteArray).size = 0 := rfl
    rw [z] at hf
    simp [Builtin.append_, run_underlying Try.underlying25, run_underlying Try.underlying9, sizeOf, typeInfo, hi, hz1, Builtin.lenOf, z]
    have hf' : (Builtin.firstCells 1 0 (Value.string { data := #[] })).run Try.prog w = .ok #[] w := hf
    simp [hf', storeCells]
  · have hpos : 0 < s.length := by
      rcases s with _ | ⟨x, s⟩
      · exact absurd rfl he
      · simp
    have e1 : (⟨s.toArray⟩ : ByteArray).size = s.length := by simp [ByteArray.size]
    have holds : ∀ j u, (cells hs)[j]? = some u → w.cell? ((⟨b, 0, none⟩ : Addr).add j) = some u := by
      obtain ⟨ad, e, hc⟩ := hh h0
      cases e
      exact Has.src hc
    have hr := Lib.run_append_grow_string (P := Try.prog) w 25 9 ty 5 i (.int .u8 0) Try.underlying25 Try.underlying9 hi hz0 ⟨b, 0, none⟩ hs.length hs.length (cells hs) (by rw [hz1, cells_length, Nat.mul_one]) holds ⟨s.toArray⟩ (by omega) (by omega) (by rw [hz2]; exact growslice_fits (by omega) (by omega))
    have hc := hr
    rw [e1] at hr
    refine ⟨_, _, _, by rw [List.length_append]; exact hr, ?_, ?_, (Kept.refl _ _).drew.alloc _⟩
    · intro _
      refine ⟨_, rfl, fun j hj => ?_⟩
      rw [WideShapes.add_plain, Nat.zero_add, cell_of_row _ w.heap.size j _ 5 (0, 0) (heap_alloc_new w.drew _)]
      have e2 : (cells hs).toArray ++ (Lib.strCells ⟨s.toArray⟩).toArray = (cells (hs ++ s)).toArray := by
        rw [cells_append]
        simp
        rfl
      rw [e2, Array.getElem?_append_left (by simpa [cells_length] using hj)]
      simpa using cells_getElem (hs ++ s) j hj
    · rw [List.length_append]
      exact grownCap_ge _ _ _ _
theorem wpList_append_full {w : World} {ops : Array Oper} {rest : List Oper} {o : Oper} {a : Act} {Q : Exit → Act → World → Prop} (hgd : o.guard = none) (sl x : Operand)
    (ho : o.op = .call { callee := .builtin .append, args := #[sl, x], argTypes := #[25, 9] })
    (b n : Nat) (hs s : List UInt8) (hn : hs.length = n) (hv : a.eval sl = .slice (some ⟨b, 0, none⟩) n n) (hx : a.eval x = .string ⟨s.toArray⟩) (hh : Has w (some ⟨b, 0, none⟩) hs) (h0 : 0 < n) (hb : n + s.length ≤ 140737488355328) (m : List UInt8) (hm : hs ++ s = m)
    (h : ∀ ao cap w', Has w' ao m → m.length ≤ cap → Kept (fun _ => True) w w' → wpList Try.prog ops Q rest (a.put o.dst (.slice ao m.length cap)) w') : wpList Try.prog ops Q (o :: rest) a w := by
  subst hn hm
  refine wpList_plain hgd fun K hK => ?_
  obtain ⟨ao, cap, w', hr, h2, h3, h4⟩ := append_full w o.type b hs s hh h0 hb
  unfold Oper.wp execOp
  simp only [ho, resolve, invoke, builtin, Sem.run_bind, Sem.run_pure, Result.andThen_ok, List.map_toArray, List.map_cons, List.map_nil, hv, hx, hr]
  exact hK _ _ (h ao cap w' h2 h3 h4)

/-- A whole array as a slice. -/
theorem slice_whole (B : Nat) (w0 : World) : (Instr.sliceAt 78 (.pointer (some ⟨B, 0, none⟩)) none none none).run Try.prog w0 = .ok (.slice (some ⟨B, 0, none⟩) 32 32) w0 := by
  have hu : Try.prog.underlying 78 = some (.array (Try.prog.arrayLen 78) (Try.prog.elem 78)) := by kernel_rfl
  have hn : Try.prog.arrayLen 78 = 32 := by kernel_rfl
  have he : Try.prog.elem 78 = Try.prog.elem 25 := by kernel_rfl
  rw [run_sliceAt_array_all (P := Try.prog) w0 78 ⟨B, 0, none⟩ hu, he, size_u8, hn]
  simp [Result.andThen, slicedAt, Addr.add]

set_option maxRecDepth 100000 in
set_option maxHeartbeats 1000000 in
theorem next_any {w : World} (h t : List UInt8) (hl : h.length = 32) (ht : t.length ≤ 100000000000000) :
    Calls Try.prog 91 #[.agg (cells h).toArray, .string ⟨t.toArray⟩] w fun e w' => e = .returned (.agg (cells (nxt h t)).toArray) ∧ Kept (fun _ => True) w w' := by
  have ln : (cells (nxt h t)).length = 32 := by rw [cells_length, nxt_len]
  have on := cells_one (nxt h t)
  have hsl := slice_whole w.heap.size
  obtain ⟨xs, hxs⟩ : ∃ xs, xs = cells (nxt h t) := ⟨_, rfl⟩
  rw [← hxs] at ln on ⊢
  obtain ⟨m, hm⟩ : ∃ m, h ++ t = m := ⟨_, rfl⟩
  have SH : ∀ (w0 : World) (ao : Option Addr) (cap : Nat), Has w0 ao m → m.length ≤ cap → Calls Try.prog 94 #[.slice ao m.length cap] w0 fun e w' => e = .returned (.agg xs.toArray) ∧ Kept (fun _ => True) w0 w' := fun w0 ao cap h1 h2 => by
    rw [hxs]
    unfold nxt
    rw [hm]
    exact sha_any h1 h2 (by rw [← hm, List.length_append]; omega)
  have HM : Hid (h ++ t = m) := hm
  clear hxs hm
  go_enter Try.func91, Try.ntmps91
  go_wp2_with (first
    | ((with_reducible refine w_box (d := some 2) (cells h) ?hx ?hn); (case hx => rfl); intro w1 a2 k1 s1)
    | ((with_reducible refine w_alloc (d := some 4) arr32 ?_); intro w2 a4 k2 s2)
    | (at_builtin; refine wpList_append_full rfl (.tmp 5) (.tmp 6) rfl w.heap.size 32 h t hl rfl rfl ((a2.kept k2 trivial).full) (by decide) (by omega) m HM.out ?_; intro ao cap w3 hh3 hc3 k3)
    | (go_at_call 94; (with_reducible refine Calls.mono (SH _ ao cap hh3 hc3) ?_); rintro e w5 ⟨rfl, k5⟩)
    | ((with_reducible apply w_store (x := .tmp 4) (b := w1.heap.size) (xs := xs) (old := List.replicate 32 (.int .u8 0)) arr32); (case hx => rfl); (case hy => rfl); (case ha => exact (a4.kept k3 trivial).kept k5 trivial); (case ho => simp); (case hl => exact ln); (case h1 => exact on); intro w6 a6 k6 s6))
  have q1 := s1.out
  have q2 := s2.out
  refine bodyPost_ret (results_ar (p := 4) arr32 rfl _ _ rfl a6 ln) rfl ⟨rfl, ?_⟩
  exact (((k1.trans k2).trans k3).trans k5).then k6 (fun i hi _ => by omega)

end Go.Proofs.Ytbooeabmpdpgpaa

namespace Go.Proofs.Ytbooeabmpdpgpaa
open Go.RowKit

theorem eq_yes {xs ys : List UInt8} (hx : xs.length = 32) (he : xs = ys) (w0 : World) : (Op.equalIn 10000 78 (.agg (cells xs).toArray) (.agg (cells ys).toArray)).run Try.prog w0 = .ok true w0 := by
  subst he
  have := eq32 xs xs hx hx w0
  rwa [beq_self_eq_true] at this
theorem eq_no {xs ys : List UInt8} (hx : xs.length = 32) (hy : ys.length = 32) (he : xs ≠ ys) (w0 : World) : (Op.equalIn 10000 78 (.agg (cells xs).toArray) (.agg (cells ys).toArray)).run Try.prog w0 = .ok false w0 := by
  have := eq32 xs ys hx hy w0
  rwa [beq_eq_false_iff_ne.2 he] at this
/-- What Check answers. -/
def EChk (xs : List Li) (w : World) (e : Ending) (w' : World) : Prop := ∃ n : Nat, e = .returned (.int .i64 n) ∧ IsChk xs n ∧ Kept (fun _ => True) w w'

set_option maxRecDepth 100000 in
set_option maxHeartbeats 2000000 in
theorem check_any {w : World} {ao : Option Addr} {cap : Nat} {xs : List Li} (h : Lv w ao xs) (hn : xs.length ≤ 100000) (hs : ∀ x ∈ xs, x.t.length ≤ 100000000000000) :
    Calls Try.prog 74 #[.slice ao xs.length cap] w fun e w' => EChk xs w e w' := by
  have HV : Hid (Lv w ao xs) := h
  have HS : Hid (∀ x ∈ xs, x.t.length ≤ 100000000000000) := hs
  have hgd := guard32
  clear h hs
  go_enter Try.func74, Try.ntmps74
  go_wp2_with ((with_reducible refine w_alloc (d := some 3) arr32 ?_); intro w2 a3 k2 s2)
  have A3 : Ar w2 w.heap.size 78 (cells zero32) := a3
  obtain ⟨B, hB⟩ : ∃ B, B = w.heap.size := ⟨_, rfl⟩
  rw [← hB] at A3 ⊢
  have HB : Hid (B = w.heap.size) := hB
  have HA : Hid (Ar w2 B 78 (cells zero32)) := A3
  have K2 : Hid (Kept (fun _ => True) w w2) := k2
  clear hB a3 A3 k2 s2
  go_loopw [8] (fun t wr => ∃ k : Nat, k ≤ xs.length ∧ t = .int .i64 k ∧ Ar wr B 78 (cells (hAt zero32 (txs xs) k)) ∧ (∀ j (_ : j < k) (hj : j < xs.length), okL xs j hj) ∧ Kept (fun _ => True) w wr) (fun t _ => xs.length - (intOf t).toNat)
  case atStart => exact ⟨0, Nat.zero_le _, rfl, HA.out, fun j h => by omega, K2.out⟩
  case round =>
    obtain ⟨k, hk, rfl, ar, hall, kr⟩ := hrel
    have HL : Hid (∀ j (_ : j < k) (hj : j < xs.length), okL xs j hj) := hall
    have AR : Hid (Ar wr B 78 (cells (hAt zero32 (txs xs) k))) := ar
    clear hall ar
    by_cases hlt : k < xs.length
    · obtain ⟨b, off, rfl, hb, hc⟩ := HV.out.row (by omega)
      have hr := range_kept (hc k hlt) kr hb trivial
      have i0 : (0 : Int) ≤ (k : Int) := by omega
      have i1 : (k : Int) < (xs.length : Int) := by omega
      have hN : hAt zero32 (txs xs) (k + 1) = nxt (hAt zero32 (txs xs) k) xs[k].t := by
        rw [hAt_succ zero32 (txs xs) k (by rw [txs_length]; exact hlt), txs_get xs k hlt]
      have HO : Hid (okL xs k hlt ↔ xs[k].h = hAt zero32 (txs xs) (k + 1)) := Iff.rfl
      have lt : (xs[k].t).length ≤ 100000000000000 := HS.out _ (List.getElem_mem _)
      have lh : (hAt zero32 (txs xs) k).length = 32 := hAt_len zero32_len _ k
      have lx := xs[k].len
      generalize hAt zero32 (txs xs) k = hd at *
      generalize hn2 : hAt zero32 (txs xs) (k + 1) = hd' at *
      have HN2 : Hid (hAt zero32 (txs xs) (k + 1) = hd') := hn2
      have cn := fun (w0 : World) => next_any (w := w0) hd xs[k].t lh lt
      have ln := nxt_len hd xs[k].t
      rw [← hN] at cn ln
      have HR : Hid (wr.rangeAt b (off + k * 33) (lcell xs[k])) := hr
      have HOK : Hid (xs[k].h = hd' → ∀ h : k < xs.length, okL xs k h) := fun e _ => HO.out.2 e
      have HNO : Hid (xs[k].h ≠ hd' → ∀ h : k < xs.length, ¬ okL xs k h) := fun e _ q => e (HO.out.1 q)
      clear hc hn2 hN hr HO
      generalize xs[k] = x at *
      have ht : wr.heap.size = wr.heap.size := rfl
      have l32 : (cells hd).length = 32 := by rw [cells_length, lh]
      have ln2 : (cells hd').length = 32 := by rw [cells_length, ln]
      have lx2 : (cells x.h).length = 32 := by rw [cells_length, lx]
      have on2 := cells_one hd'
      have hz := AR.out.lt
      by_cases he : x.h = hd'
      · have hq := fun w0 => eq_yes lx he w0
        have HE : Hid (x.h = hd') := he
        clear he lh ln lt lx ht
        go_wp2_with (first
          | ((with_reducible apply w_loadL (d := some 12) linkP (b := b) (o := off + k * 33) (x := x)); (case hx => rfl); (case hr => exact HR.out))
          | ((with_reducible refine w_allocL (d := some 5) linkP ?_); intro w3 a5 k3 s3; have cc0 := s3.out)
          | ((with_reducible apply w_storeL (x := .tmp 5) linkP (b := wr.heap.size) (z := x) (old := zeroLi)); (case hx => rfl); (case hy => rfl); (case ha => exact a5); intro w4 a5' k4 s4; have ct := a5'.text)
          | ((with_reducible apply w_loadH (d := some 13) (b := B) (o := 0) (cs := cells hd)); (case hx => rfl); (case hr => exact ((AR.out.kept k3 trivial).kept k4 (by omega)).range); (case hl => exact l32))
          | (go_at_call 91; (with_reducible refine Calls.mono (cn _) ?_); rintro e w5 ⟨rfl, k5⟩)
          | ((with_reducible apply w_store (x := .tmp 3) (b := B) (xs := cells hd') (old := cells hd) arr32); (case hx => rfl); (case hy => rfl); (case ha => exact ((AR.out.kept k3 trivial).kept k4 (by omega)).kept k5 trivial); (case ho => exact l32); (case hl => exact ln2); (case h1 => exact on2); intro w6 a6 k6 s6)
          | ((with_reducible apply w_loadH (d := some 18) (b := wr.heap.size) (o := 1) (cs := cells x.h)); (case hx => rfl); (case hr => exact ((a5'.kept k5 trivial).kept k6 (by omega)).head); (case hl => exact lx2))
          | ((with_reducible apply w_loadH (d := some 19) (b := B) (o := 0) (cs := cells hd')); (case hx => rfl); (case hr => exact a6.range); (case hl => exact ln2)))
        go_roundw
        case rel =>
          refine ⟨k + 1, by omega, by go_num, ?_, fun j hj hj2 => ?_, ?_⟩
          · rw [HN2.out]; exact a6
          · by_cases e : j = k
            · subst e; exact HOK.out HE.out hj2
            · exact HL.out j (by omega) hj2
          · have hb2 := HB.out
            exact (((kr.trans k3).then k4 (fun i hi _ => by have := kr.size; omega)).trans k5).then k6 (fun i hi _ => by omega)
        case measure => simp [intOf]; omega
      · have hq := fun w0 => eq_no lx ln he w0
        have HE : Hid (x.h ≠ hd') := he
        clear he lh ln lt lx ht
        go_wp2_with (first
          | ((with_reducible apply w_loadL (d := some 12) linkP (b := b) (o := off + k * 33) (x := x)); (case hx => rfl); (case hr => exact HR.out))
          | ((with_reducible refine w_allocL (d := some 5) linkP ?_); intro w3 a5 k3 s3; have cc0 := s3.out)
          | ((with_reducible apply w_storeL (x := .tmp 5) linkP (b := wr.heap.size) (z := x) (old := zeroLi)); (case hx => rfl); (case hy => rfl); (case ha => exact a5); intro w4 a5' k4 s4; have ct := a5'.text)
          | ((with_reducible apply w_loadH (d := some 13) (b := B) (o := 0) (cs := cells hd)); (case hx => rfl); (case hr => exact ((AR.out.kept k3 trivial).kept k4 (by omega)).range); (case hl => exact l32))
          | (go_at_call 91; (with_reducible refine Calls.mono (cn _) ?_); rintro e w5 ⟨rfl, k5⟩)
          | ((with_reducible apply w_store (x := .tmp 3) (b := B) (xs := cells hd') (old := cells hd) arr32); (case hx => rfl); (case hy => rfl); (case ha => exact ((AR.out.kept k3 trivial).kept k4 (by omega)).kept k5 trivial); (case ho => exact l32); (case hl => exact ln2); (case h1 => exact on2); intro w6 a6 k6 s6)
          | ((with_reducible apply w_loadH (d := some 18) (b := wr.heap.size) (o := 1) (cs := cells x.h)); (case hx => rfl); (case hr => exact ((a5'.kept k5 trivial).kept k6 (by omega)).head); (case hl => exact lx2))
          | ((with_reducible apply w_loadH (d := some 19) (b := B) (o := 0) (cs := cells hd')); (case hx => rfl); (case hr => exact a6.range); (case hl => exact ln2)))
        go_ret
        refine ⟨k, rfl, ⟨by omega, HL.out, HNO.out HE.out⟩, ?_⟩
        have hb2 := HB.out
        exact (((kr.trans k3).then k4 (fun i hi _ => by have := kr.size; omega)).trans k5).then k6 (fun i hi _ => by omega)
    · have i1 : ¬ (k : Int) < (xs.length : Int) := by omega
      have hke : k = xs.length := by omega
      subst hke
      go_wp2
      go_ret
      exact ⟨xs.length, rfl, ⟨Nat.le_refl _, HL.out, fun h => absurd h (by omega)⟩, kr⟩

end Go.Proofs.Ytbooeabmpdpgpaa
